/-
  GRAPHS HELD AGAINST EACH OTHER: the reference's, by contract.
-/
import Derived.Test.YtjgddkbpfpgaoacGreatDoorGSame
import Derived.Deep.RegionHeld3
namespace Go.Proofs.YtjgddkbpfpgaoacGreatDoor
open Go.ChangeShapes Go.WideShapes Go.ChangeAt Go.RowKit

theorem heap_new2 (w : World) (o1 o2 : Obj) : ((w.alloc o1).alloc o2).heap[w.heap.size + 1]? = some o2 := by
  have h := heap_alloc_new (w.alloc o1) o2
  rwa [show (w.alloc o1).heap.size = w.heap.size + 1 by show (w.heap.push o1).size = _; simp] at h
theorem grs_no {g h : Gr} {k : Nat} (hk : (g.ns.getD k Nd.none) ≠ (h.ns.getD k Nd.none)) : eqB g h = false := eqB_no fun e => hk (by rw [e])
theorem grs_noE {g h : Gr} {k : Nat} (hk : (g.es.getD k Eg.none) ≠ (h.es.getD k Eg.none)) : eqB g h = false := eqB_no fun e => hk (by rw [e])
theorem grs_len {g h : Gr} (hk : ¬ g.ns.length = h.ns.length) : eqB g h = false := eqB_no fun e => hk (by rw [e])
theorem grs_lenE {g h : Gr} (hk : ¬ g.es.length = h.es.length) : eqB g h = false := eqB_no fun e => hk (by rw [e])
theorem grs_all {g h : Gr} (h1 : g.ns.length = h.ns.length) (h2 : g.es.length = h.es.length) (h3 : ∀ j, j < g.ns.length → g.ns.getD j Nd.none = h.ns.getD j Nd.none) (h4 : ∀ j, j < g.es.length → g.es.getD j Eg.none = h.es.getD j Eg.none) : eqB g h = true := by
  have e1 : g.ns = h.ns := List.ext_getElem h1 fun j a b => by
    have := h3 j a
    rwa [show g.ns.getD j Nd.none = g.ns[j] by simp [List.getD, a], show h.ns.getD j Nd.none = h.ns[j] by simp [List.getD, b]] at this
  have e2 : g.es = h.es := List.ext_getElem h2 fun j a b => by
    have := h4 j a
    rwa [show g.es.getD j Eg.none = g.es[j] by simp [List.getD, a], show h.es.getD j Eg.none = h.es[j] by simp [List.getD, b]] at this
  obtain ⟨ns, es⟩ := g
  obtain ⟨ms, fs⟩ := h
  simp only at e1 e2
  subst e1 e2
  exact eqB_yes rfl
set_option maxRecDepth 100000 in
set_option maxHeartbeats 6400000 in
theorem rgsame_eq (g h : Gr) (N M : Nat) (n1 : Hid (g.ns.length = N)) (n2 : Hid (h.ns.length = N)) (m1 : Hid (g.es.length = M)) (m2 : Hid (h.es.length = M)) (a b c d : Option Addr) (ca cb cc cd : Nat) (w : World)
    (hg1 : Hid (HoldsN w (.slice a N ca) g.ns)) (hg2 : Hid (RowAt w b (edgeR.flat g.es))) (hh1 : Hid (HoldsN w (.slice c N cc) h.ns)) (hh2 : Hid (RowAt w d (edgeR.flat h.es))) (l1 : N ≤ 1000000) (l2 : M ≤ 1000000) (l3 : Hid (∀ x ∈ g.ns, x.ps.length ≤ 1000000)) :
    Calls Tryz.prog 8 #[.agg #[.slice a N ca, .slice b M cb], .agg #[.slice c N cc, .slice d M cd]] w fun e w' => e = .returned (.bool (eqB g h)) ∧ Below w.heap.size w w' := by
  have hB0 := ((Below.refl w.heap.size w).alloc (Nat.le_refl _) (.cells #[.slice a N ca, .slice b M cb] 25)).alloc (by simp) (.cells #[.slice c N cc, .slice d M cd] 25)
  have hX := heap_alloc_old (w.alloc (.cells #[.slice a N ca, .slice b M cb] 25)) (.cells #[.slice c N cc, .slice d M cd] 25) (by simp) |>.trans (heap_alloc_new w (.cells #[.slice a N ca, .slice b M cb] 25))
  have hY := heap_alloc_new (w.alloc (.cells #[.slice a N ca, .slice b M cb] 25)) (.cells #[.slice c N cc, .slice d M cd] 25)
  rw [show (w.alloc (.cells #[.slice a N ca, .slice b M cb] 25)).heap.size = w.heap.size + 1 by simp] at hY
  obtain ⟨⟨x0, x1⟩, -⟩ := box2f hX
  obtain ⟨⟨y0, y1⟩, -⟩ := box2f hY
  have hXY := hidden (And.intro hX hY)
  replace hB0 := hidden hB0
  clear hX hY
  have hb1 : ((N : Int) != (N : Int)) = false := by simp
  have hb2 : ((M : Int) != (M : Int)) = false := by simp
  go_enter Tryz.func8, Tryz.ntmps8
  go_wp2
  clear x0 x1 y0 y1 hb1 hb2
  go_loopw [5] (fun i x => ∃ k : Nat, k ≤ N ∧ i = .int .i64 k ∧ Hid (∀ j, j < k → g.ns.getD j Nd.none = h.ns.getD j Nd.none) ∧ Hid (Below w.heap.size w x) ∧ Hid (x.heap[w.heap.size]? = some (.cells #[.slice a N ca, .slice b M cb] 25) ∧ x.heap[w.heap.size + 1]? = some (.cells #[.slice c N cc, .slice d M cd] 25)))
    (fun i _ => N - (intOf i).toNat)
  case atStart => exact ⟨0, Nat.zero_le _, rfl, (fun j hj => absurd hj (Nat.not_lt_zero j) : ∀ j, j < 0 → _), hB0, hXY⟩
  case round =>
    clear hXY hB0
    obtain ⟨k, hk, rfl, ht, hB, hXY⟩ := hrel
    obtain ⟨⟨x0, x1⟩, -⟩ := box2f hXY.out.1
    obtain ⟨⟨y0, y1⟩, -⟩ := box2f hXY.out.2
    by_cases hlt : k < N
    · have hlt' : (k : Int) < (N : Int) := by omega
      have hlx : k < g.ns.length := by rw [n1.out]; exact hlt
      obtain ⟨b1, o1, pa, pn, pc, rfl, hb1, c0, c1, hp⟩ := node_at (hg1.out.calm (.of_below hB.out)) hlx
      obtain ⟨b2, o2, qa, qn, qc, rfl, hb2, d0, d1, hq⟩ := node_at (hh1.out.calm (.of_below hB.out)) (k := k) (by rw [n2.out]; exact hlt)
      obtain ⟨pa', pc', hpe, hpr⟩ := hp
      simp only [Value.slice.injEq] at hpe
      obtain ⟨rfl, rfl, rfl⟩ := hpe
      obtain ⟨qa', qc', hqe, hqr⟩ := hq
      simp only [Value.slice.injEq] at hqe
      obtain ⟨rfl, rfl, rfl⟩ := hqe
      have hpl : (g.ns.getD k Nd.none).ps.length ≤ 1000000 := l3.out _ (by
        rw [show g.ns.getD k Nd.none = g.ns[k] by simp [List.getD, hlx]]
        exact List.getElem_mem _)
      have hno := hidden fun e => grs_no (g := g) (h := h) (k := k) e
      have hnx := hidden (same_next (d := Nd.none) (xs := g.ns) (ys := h.ns) (k := k) ht.out)
      clear ht
      generalize g.ns.getD k Nd.none = x at *
      generalize h.ns.getD k Nd.none = y at *
      obtain ⟨t1, ps⟩ := x
      obtain ⟨t2, qs⟩ := y
      simp only at c0 c1 d0 d1 hpr hqr hpl
      obtain ⟨P, hP⟩ : ∃ P, Hid (ps.length = P) := ⟨_, hidden rfl⟩
      obtain ⟨R, hR⟩ : ∃ R, Hid (qs.length = R) := ⟨_, hidden rfl⟩
      rw [hP.out] at c1 hpl
      rw [hR.out] at d1
      replace hpr := hidden hpr
      replace hqr := hidden hqr
      have z0 : w.heap.size < wr.heap.size := World.block_lt_of_cell? _ _ x0
      have z1 : w.heap.size + 1 < wr.heap.size := World.block_lt_of_cell? _ _ y0
      have e1 : ¬ b1 = wr.heap.size := by omega
      have e2 : ¬ b2 = wr.heap.size := by omega
      have e3 : ¬ w.heap.size = wr.heap.size := by omega
      have e4 : ¬ w.heap.size + 1 = wr.heap.size := by omega
      have e5 : ¬ b1 = wr.heap.size + 1 := by omega
      have e6 : ¬ b2 = wr.heap.size + 1 := by omega
      have e7 : ¬ w.heap.size = wr.heap.size + 1 := by omega
      have e8 : ¬ w.heap.size + 1 = wr.heap.size + 1 := by omega
      have hW1 : Hid (((wr.alloc (.cells #[.string t1, .slice pa P pc] 33)).alloc (.cells #[.string t2, .slice qa R qc] 33)).drew.heap[wr.heap.size]? = some (.cells #[.string t1, .slice pa P pc] 33) ∧ ((wr.alloc (.cells #[.string t1, .slice pa P pc] 33)).alloc (.cells #[.string t2, .slice qa R qc] 33)).drew.heap[wr.heap.size + 1]? = some (.cells #[.string t2, .slice qa R qc] 33) ∧ Below wr.heap.size wr ((wr.alloc (.cells #[.string t1, .slice pa P pc] 33)).alloc (.cells #[.string t2, .slice qa R qc] 33)).drew) :=
        ⟨heap_alloc_old (wr.alloc (.cells #[.string t1, .slice pa P pc] 33)) (.cells #[.string t2, .slice qa R qc] 33) (by simp) |>.trans (heap_alloc_new wr (.cells #[.string t1, .slice pa P pc] 33)), heap_new2 wr (.cells #[.string t1, .slice pa P pc] 33) (.cells #[.string t2, .slice qa R qc] 33), (((Below.refl wr.heap.size wr).alloc (Nat.le_refl _) _).alloc (by simp) _).drew⟩
      have hW2 : Hid (((wr.alloc (.cells #[.string t2, .slice qa R qc] 33)).alloc (.cells #[.string t1, .slice pa P pc] 33)).drew.heap[wr.heap.size + 1]? = some (.cells #[.string t1, .slice pa P pc] 33) ∧ ((wr.alloc (.cells #[.string t2, .slice qa R qc] 33)).alloc (.cells #[.string t1, .slice pa P pc] 33)).drew.heap[wr.heap.size]? = some (.cells #[.string t2, .slice qa R qc] 33) ∧ Below wr.heap.size wr ((wr.alloc (.cells #[.string t2, .slice qa R qc] 33)).alloc (.cells #[.string t1, .slice pa P pc] 33)).drew) :=
        ⟨heap_new2 wr (.cells #[.string t2, .slice qa R qc] 33) (.cells #[.string t1, .slice pa P pc] 33), heap_alloc_old (wr.alloc (.cells #[.string t2, .slice qa R qc] 33)) (.cells #[.string t1, .slice pa P pc] 33) (by simp) |>.trans (heap_alloc_new wr (.cells #[.string t2, .slice qa R qc] 33)), (((Below.refl wr.heap.size wr).alloc (Nat.le_refl _) _).alloc (by simp) _).drew⟩
      go_wp2_with fail
      go_region_held3 (fun z => z.cell? ⟨w.heap.size, 0, none⟩ = some (.slice (some ⟨b1, o1, none⟩) N ca) ∧ z.cell? ⟨w.heap.size + 1, 0, none⟩ = some (.slice (some ⟨b2, o2, none⟩) N cc) ∧ z.cell? ⟨b1, o1 + k * 2, none⟩ = some (.string t1) ∧ z.cell? ⟨b1, o1 + k * 2 + 1, none⟩ = some (.slice pa P pc) ∧ z.cell? ⟨b2, o2 + k * 2, none⟩ = some (.string t2) ∧ z.cell? ⟨b2, o2 + k * 2 + 1, none⟩ = some (.slice qa R qc)) (go_keep) (fail)
      · obtain ⟨wv, hwv⟩ : ∃ wv, wv = ((wr.alloc (.cells #[.string t1, .slice pa P pc] 33)).alloc (.cells #[.string t2, .slice qa R qc] 33)).drew := ⟨_, rfl⟩
        rw [← hwv] at hW1 ⊢
        clear hwv hW2
        obtain ⟨k1, k2, hBv⟩ := hW1.out
        obtain ⟨⟨u0, u1⟩, -⟩ := box2f k1
        obtain ⟨⟨v0, v1⟩, -⟩ := box2f k2
        have hK := hidden (And.intro k1 k2)
        have hXYv := hidden (And.intro (box_below hXY.out.1 hBv) (box_below hXY.out.2 hBv))
        have hBw := hidden (hB.out.trans (hBv.mono hB.out.size))
        replace hBv := hidden hBv
        clear x0 x1 y0 y1 c0 c1 d0 d1 z0 z1 e1 e2 e3 e4 e5 e6 e7 e8 k1 k2 hW1 hXY hB hb1 hb2
        by_cases ht1 : t1.toList = t2.toList
        · have f1 : (t1.toList != t2.toList) = false := by simp [ht1]
          obtain rfl := txt_ext ht1
          clear ht1
          by_cases hPR : P = R
          · have hPR' := hPR
            subst hPR
            have f2 : ((P : Int) != (P : Int)) = false := by simp
            go_wp2
            clear f1 f2 u0 u1 v0 v1
            go_loopw [8] (fun i x => ∃ j : Nat, j ≤ P ∧ i = .int .i64 j ∧ Hid (∀ i, i < j → ps.getD i Pp.none = qs.getD i Pp.none) ∧ Hid (Below wv.heap.size wv x)) (fun i _ => P - (intOf i).toNat)
            case atStart => exact ⟨0, Nat.zero_le _, rfl, (fun j hj => absurd hj (Nat.not_lt_zero j) : ∀ j, j < 0 → _), Below.refl _ _⟩
            case round =>
              obtain ⟨j, hj, rfl, htj, hBj⟩ := hrel
              obtain ⟨⟨u0, u1⟩, -⟩ := box2f (box_below hK.out.1 hBj.out)
              obtain ⟨⟨v0, v1⟩, -⟩ := box2f (box_below hK.out.2 hBj.out)
              have hBwr := hidden (hBv.out.trans (hBj.out.mono hBv.out.size))
              by_cases hlt2 : j < P
              · have hlt2' : (j : Int) < (P : Int) := by omega
                obtain ⟨g1, og1, rfl, hg1', r0, r1, r2, r3⟩ := prop_at (hpr.out.below hBwr.out) (k := j) (by rw [hP.out]; exact hlt2)
                obtain ⟨g2, og2, rfl, hg2', q0, q1, q2, q3⟩ := prop_at (hqr.out.below hBwr.out) (k := j) (by rw [hR.out]; exact hlt2)
                have hcmp := fun z => neqP (ps.getD j Pp.none) (qs.getD j Pp.none) z
                have hbad : Hid (ps.getD j Pp.none ≠ qs.getD j Pp.none → eqB g h = false) := fun hne => hno.out fun e => hne (by cases e; rfl)
                have hnj := hidden (same_next (d := Pp.none) (xs := ps) (ys := qs) (k := j) htj.out)
                clear htj
                generalize ps.getD j Pp.none = xp at *
                generalize qs.getD j Pp.none = yp at *
                obtain ⟨a0, a1, a2, a3⟩ := xp
                obtain ⟨b0, b1, b2, b3⟩ := yp
                simp only at r0 r1 r2 r3 q0 q1 q2 q3 hcmp
                by_cases he : (⟨a0, a1, a2, a3⟩ : Pp) = ⟨b0, b1, b2, b3⟩
                · rw [eqB_yes he] at hcmp
                  have hnj2 := hidden (hnj.out he)
                  clear hnj hbad he
                  go_wp2
                  go_quiet (fail)
                  go_wp2
                  go_roundw
                  case rel => exact ⟨j + 1, by omega, by go_num, hnj2, below_drewN hBj.out _⟩
                  case measure => simp [intOf]; omega
                · rw [eqB_no he] at hcmp
                  have hbad2 := hidden (hbad.out he)
                  have hfinB := hidden (hBw.out.trans (hBj.out.mono hBw.out.size))
                  clear hnj hbad he
                  go_wp2
                  go_quiet (fail)
                  go_wp2
                  go_ret
                  exact ⟨by rw [hbad2.out]; first | done | rfl, below_drewN hfinB.out _⟩
              · have hlt2' : ¬ (j : Int) < (P : Int) := by omega
                have hsame : Hid (∀ i, i < k + 1 → g.ns.getD i Nd.none = h.ns.getD i Nd.none) := hnx.out (by
                  have e : ps = qs := List.ext_getElem (by rw [hP.out, hR.out]) fun i h1 h2 => by
                    have := htj.out i (by rw [hP.out] at h1; omega)
                    rwa [show ps.getD i Pp.none = ps[i] by simp [List.getD, h1], show qs.getD i Pp.none = qs[i] by simp [List.getD, h2]] at this
                  rw [e])
                have hBE := hidden (hBw.out.trans (hBj.out.mono hBw.out.size))
                have hXYE := hidden (And.intro (box_below hXYv.out.1 hBj.out) (box_below hXYv.out.2 hBj.out))
                clear htj hnx hno
                go_wp2
                go_roundw
                case rel => exact ⟨k + 1, by omega, by go_num, hsame, hBE, hXYE⟩
                case measure => simp [intOf]; omega
          · have f2 : ((P : Int) != (R : Int)) = true := by simp; omega
            have hbad : Hid (eqB g h = false) := hno.out fun e => hPR (by rw [← hP.out, ← hR.out]; cases e; rfl)
            clear hno hnx
            go_wp2
            go_ret
            exact ⟨by rw [hbad.out]; first | done | rfl, hBw.out⟩
        · have f1 : (t1.toList == t2.toList) = false := by simp [ht1]
          have hbad : Hid (eqB g h = false) := hno.out fun e => ht1 (by cases e; rfl)
          clear hno hnx ht1
          go_wp2
          go_ret
          exact ⟨by rw [hbad.out]; first | done | rfl, hBw.out⟩
      · obtain ⟨wv, hwv⟩ : ∃ wv, wv = ((wr.alloc (.cells #[.string t2, .slice qa R qc] 33)).alloc (.cells #[.string t1, .slice pa P pc] 33)).drew := ⟨_, rfl⟩
        rw [← hwv] at hW2 ⊢
        clear hwv hW1
        obtain ⟨k1, k2, hBv⟩ := hW2.out
        obtain ⟨⟨u0, u1⟩, -⟩ := box2f k1
        obtain ⟨⟨v0, v1⟩, -⟩ := box2f k2
        have hK := hidden (And.intro k1 k2)
        have hXYv := hidden (And.intro (box_below hXY.out.1 hBv) (box_below hXY.out.2 hBv))
        have hBw := hidden (hB.out.trans (hBv.mono hB.out.size))
        replace hBv := hidden hBv
        clear x0 x1 y0 y1 c0 c1 d0 d1 z0 z1 e1 e2 e3 e4 e5 e6 e7 e8 k1 k2 hW2 hXY hB hb1 hb2
        by_cases ht1 : t1.toList = t2.toList
        · have f1 : (t1.toList != t2.toList) = false := by simp [ht1]
          obtain rfl := txt_ext ht1
          clear ht1
          by_cases hPR : P = R
          · have hPR' := hPR
            subst hPR
            have f2 : ((P : Int) != (P : Int)) = false := by simp
            go_wp2
            clear f1 f2 u0 u1 v0 v1
            go_loopw [8] (fun i x => ∃ j : Nat, j ≤ P ∧ i = .int .i64 j ∧ Hid (∀ i, i < j → ps.getD i Pp.none = qs.getD i Pp.none) ∧ Hid (Below wv.heap.size wv x)) (fun i _ => P - (intOf i).toNat)
            case atStart => exact ⟨0, Nat.zero_le _, rfl, (fun j hj => absurd hj (Nat.not_lt_zero j) : ∀ j, j < 0 → _), Below.refl _ _⟩
            case round =>
              obtain ⟨j, hj, rfl, htj, hBj⟩ := hrel
              obtain ⟨⟨u0, u1⟩, -⟩ := box2f (box_below hK.out.1 hBj.out)
              obtain ⟨⟨v0, v1⟩, -⟩ := box2f (box_below hK.out.2 hBj.out)
              have hBwr := hidden (hBv.out.trans (hBj.out.mono hBv.out.size))
              by_cases hlt2 : j < P
              · have hlt2' : (j : Int) < (P : Int) := by omega
                obtain ⟨g1, og1, rfl, hg1', r0, r1, r2, r3⟩ := prop_at (hpr.out.below hBwr.out) (k := j) (by rw [hP.out]; exact hlt2)
                obtain ⟨g2, og2, rfl, hg2', q0, q1, q2, q3⟩ := prop_at (hqr.out.below hBwr.out) (k := j) (by rw [hR.out]; exact hlt2)
                have hcmp := fun z => neqP (ps.getD j Pp.none) (qs.getD j Pp.none) z
                have hbad : Hid (ps.getD j Pp.none ≠ qs.getD j Pp.none → eqB g h = false) := fun hne => hno.out fun e => hne (by cases e; rfl)
                have hnj := hidden (same_next (d := Pp.none) (xs := ps) (ys := qs) (k := j) htj.out)
                clear htj
                generalize ps.getD j Pp.none = xp at *
                generalize qs.getD j Pp.none = yp at *
                obtain ⟨a0, a1, a2, a3⟩ := xp
                obtain ⟨b0, b1, b2, b3⟩ := yp
                simp only at r0 r1 r2 r3 q0 q1 q2 q3 hcmp
                by_cases he : (⟨a0, a1, a2, a3⟩ : Pp) = ⟨b0, b1, b2, b3⟩
                · rw [eqB_yes he] at hcmp
                  have hnj2 := hidden (hnj.out he)
                  clear hnj hbad he
                  go_wp2
                  go_quiet (fail)
                  go_wp2
                  go_roundw
                  case rel => exact ⟨j + 1, by omega, by go_num, hnj2, below_drewN hBj.out _⟩
                  case measure => simp [intOf]; omega
                · rw [eqB_no he] at hcmp
                  have hbad2 := hidden (hbad.out he)
                  have hfinB := hidden (hBw.out.trans (hBj.out.mono hBw.out.size))
                  clear hnj hbad he
                  go_wp2
                  go_quiet (fail)
                  go_wp2
                  go_ret
                  exact ⟨by rw [hbad2.out]; first | done | rfl, below_drewN hfinB.out _⟩
              · have hlt2' : ¬ (j : Int) < (P : Int) := by omega
                have hsame : Hid (∀ i, i < k + 1 → g.ns.getD i Nd.none = h.ns.getD i Nd.none) := hnx.out (by
                  have e : ps = qs := List.ext_getElem (by rw [hP.out, hR.out]) fun i h1 h2 => by
                    have := htj.out i (by rw [hP.out] at h1; omega)
                    rwa [show ps.getD i Pp.none = ps[i] by simp [List.getD, h1], show qs.getD i Pp.none = qs[i] by simp [List.getD, h2]] at this
                  rw [e])
                have hBE := hidden (hBw.out.trans (hBj.out.mono hBw.out.size))
                have hXYE := hidden (And.intro (box_below hXYv.out.1 hBj.out) (box_below hXYv.out.2 hBj.out))
                clear htj hnx hno
                go_wp2
                go_roundw
                case rel => exact ⟨k + 1, by omega, by go_num, hsame, hBE, hXYE⟩
                case measure => simp [intOf]; omega
          · have f2 : ((P : Int) != (R : Int)) = true := by simp; omega
            have hbad : Hid (eqB g h = false) := hno.out fun e => hPR (by rw [← hP.out, ← hR.out]; cases e; rfl)
            clear hno hnx
            go_wp2
            go_ret
            exact ⟨by rw [hbad.out]; first | done | rfl, hBw.out⟩
        · have f1 : (t1.toList == t2.toList) = false := by simp [ht1]
          have hbad : Hid (eqB g h = false) := hno.out fun e => ht1 (by cases e; rfl)
          clear hno hnx ht1
          go_wp2
          go_ret
          exact ⟨by rw [hbad.out]; first | done | rfl, hBw.out⟩
    · have hlt' : ¬ (k : Int) < (N : Int) := by omega
      obtain rfl : k = N := by omega
      go_wp2
      clear x0 x1 y0 y1
      go_loopw [9] (fun i x => ∃ j : Nat, j ≤ M ∧ i = .int .i64 j ∧ Hid (∀ i, i < j → g.es.getD i Eg.none = h.es.getD i Eg.none) ∧ Hid (Below w.heap.size w x) ∧ Hid (x.heap[w.heap.size]? = some (.cells #[.slice a k ca, .slice b M cb] 25) ∧ x.heap[w.heap.size + 1]? = some (.cells #[.slice c k cc, .slice d M cd] 25))) (fun i _ => M - (intOf i).toNat)
      case atStart => exact ⟨0, Nat.zero_le _, rfl, (fun j hj => absurd hj (Nat.not_lt_zero j) : ∀ j, j < 0 → _), hB, hXY⟩
      case round =>
        clear hB hXY
        obtain ⟨j, hj, rfl, htj, hB, hXY⟩ := hrel
        obtain ⟨⟨x0, x1⟩, -⟩ := box2f hXY.out.1
        obtain ⟨⟨y0, y1⟩, -⟩ := box2f hXY.out.2
        by_cases hlt2 : j < M
        · have hlt2' : (j : Int) < (M : Int) := by omega
          obtain ⟨g1, og1, rfl, hg1', r0, r1, r2, r3⟩ := edge_at (hg2.out.below hB.out) (k := j) (by rw [m1.out]; exact hlt2)
          obtain ⟨g2, og2, rfl, hg2', q0, q1, q2, q3⟩ := edge_at (hh2.out.below hB.out) (k := j) (by rw [m2.out]; exact hlt2)
          have hcmp := fun z => neqE (g.es.getD j Eg.none) (h.es.getD j Eg.none) z
          have hbad := hidden fun e => grs_noE (g := g) (h := h) (k := j) e
          have hnj := hidden (same_next (d := Eg.none) (xs := g.es) (ys := h.es) (k := j) htj.out)
          clear htj
          generalize g.es.getD j Eg.none = xp at *
          generalize h.es.getD j Eg.none = yp at *
          obtain ⟨a0, a1, a2, a3⟩ := xp
          obtain ⟨b0, b1, b2, b3⟩ := yp
          simp only at r0 r1 r2 r3 q0 q1 q2 q3 hcmp
          by_cases he : (⟨a0, a1, a2, a3⟩ : Eg) = ⟨b0, b1, b2, b3⟩
          · rw [eqB_yes he] at hcmp
            have hnj2 := hidden (hnj.out he)
            clear hnj hbad he
            go_wp2
            go_quiet (fail)
            go_wp2
            go_roundw
            case rel => exact ⟨j + 1, by omega, by go_num, hnj2, below_drewN hB.out _, hXY⟩
            case measure => simp [intOf]; omega
          · rw [eqB_no he] at hcmp
            have hbad2 := hidden (hbad.out he)
            clear hnj hbad he
            go_wp2
            go_quiet (fail)
            go_wp2
            go_ret
            exact ⟨by rw [hbad2.out]; first | done | rfl, below_drewN hB.out _⟩
        · have hlt2' : ¬ (j : Int) < (M : Int) := by omega
          obtain rfl : j = M := by omega
          have hall := hidden (grs_all (g := g) (h := h) (by rw [n1.out, n2.out]) (by rw [m1.out, m2.out]) (by rw [n1.out]; exact ht.out) (by rw [m1.out]; exact htj.out))
          clear htj ht
          go_wp2
          go_ret
          exact ⟨by rw [hall.out]; first | done | rfl, hB.out⟩
set_option maxRecDepth 100000 in
set_option maxHeartbeats 3200000 in
theorem rgsame_c (g h : Gr) (a b c d : Option Addr) (ca cb cc cd : Nat) (w : World) (hg1 : HoldsN w (.slice a g.ns.length ca) g.ns) (hg2 : RowAt w b (edgeR.flat g.es)) (hh1 : HoldsN w (.slice c h.ns.length cc) h.ns) (hh2 : RowAt w d (edgeR.flat h.es))
    (l1 : g.ns.length ≤ 1000000) (l2 : g.es.length ≤ 1000000) (l3 : ∀ x ∈ g.ns, x.ps.length ≤ 1000000) :
    Calls Tryz.prog 8 #[.agg #[.slice a g.ns.length ca, .slice b g.es.length cb], .agg #[.slice c h.ns.length cc, .slice d h.es.length cd]] w fun e w' => e = .returned (.bool (eqB g h)) ∧ Below w.heap.size w w' := by
  have hB0 := ((Below.refl w.heap.size w).alloc (Nat.le_refl _) (.cells #[.slice a g.ns.length ca, .slice b g.es.length cb] 25)).alloc (by simp) (.cells #[.slice c h.ns.length cc, .slice d h.es.length cd] 25)
  have hX := heap_alloc_old (w.alloc (.cells #[.slice a g.ns.length ca, .slice b g.es.length cb] 25)) (.cells #[.slice c h.ns.length cc, .slice d h.es.length cd] 25) (by simp) |>.trans (heap_alloc_new w (.cells #[.slice a g.ns.length ca, .slice b g.es.length cb] 25))
  have hY := heap_alloc_new (w.alloc (.cells #[.slice a g.ns.length ca, .slice b g.es.length cb] 25)) (.cells #[.slice c h.ns.length cc, .slice d h.es.length cd] 25)
  rw [show (w.alloc (.cells #[.slice a g.ns.length ca, .slice b g.es.length cb] 25)).heap.size = w.heap.size + 1 by simp] at hY
  obtain ⟨⟨x0, x1⟩, -⟩ := box2f hX
  obtain ⟨⟨y0, y1⟩, -⟩ := box2f hY
  replace hB0 := hidden hB0
  replace hX := hidden hX
  replace hY := hidden hY
  obtain ⟨N, hN⟩ : ∃ N, N = g.ns.length := ⟨_, rfl⟩
  obtain ⟨M, hM⟩ : ∃ M, M = g.es.length := ⟨_, rfl⟩
  by_cases q1 : g.ns.length = h.ns.length
  · by_cases q2 : g.es.length = h.es.length
    · have hlens := hidden (And.intro q1 q2)
      have en : h.ns.length = N := by omega
      have em : h.es.length = M := by omega
      clear hB0 hX hY x0 x1 y0 y1
      rw [en] at hh1
      rw [← hN] at hg1
      rw [en, em, ← hN, ← hM]
      exact rgsame_eq g h N M hN.symm en hM.symm em a b c d ca cb cc cd w hg1 hg2 hh1 hh2 (by omega) (by omega) l3
    · have hno := hidden (grs_lenE q2)
      have hb1 : ((g.ns.length : Int) != (h.ns.length : Int)) = false := by simp; omega
      have hb2 : ((g.es.length : Int) != (h.es.length : Int)) = true := by simp; omega
      generalize eqB g h = rr at *
      generalize h.es.length = n2 at *
      generalize g.es.length = n1 at *
      generalize h.ns.length = n4 at *
      generalize g.ns.length = n3 at *
      clear hN hM q1 q2 hg1 hg2 hh1 hh2 l1 l2 l3
      go_enter Tryz.func8, Tryz.ntmps8
      go_wp2
      go_ret
      exact ⟨by rw [hno.out]; first | done | rfl, hB0.out⟩
  · have hno := hidden (grs_len q1)
    have hb1 : ((g.ns.length : Int) != (h.ns.length : Int)) = true := by simp; omega
    generalize eqB g h = rr at *
    generalize h.es.length = n2 at *
    generalize g.es.length = n1 at *
    generalize h.ns.length = n4 at *
    generalize g.ns.length = n3 at *
    clear hN hM q1 hg1 hg2 hh1 hh2 l1 l2 l3
    go_enter Tryz.func8, Tryz.ntmps8
    go_wp2
    go_ret
    exact ⟨by rw [hno.out]; first | done | rfl, hB0.out⟩
end Go.Proofs.YtjgddkbpfpgaoacGreatDoor
