/-
  WHICH NUMBERS ARE IN A SET BEHIND ANY CALLS: the law's own walk.
-/
import Derived.Test.YtieinedancdokacDoorPF
import Derived.Test.YtieinedancdokacDoorPE
import Derived.Test.YtieinedancdokacDoorPB
import Derived.Test.YtieinedancdokacDoorPH
import Derived.Test.YtieinedancdokacDoorPA
import Derived.Test.YtieinedancdokacDoorXCodeG
namespace Go.Proofs.YtieinedancdokacDoor
open Go.ChangeShapes Go.WideShapes Go.ChangeAt Go.RowKit

/-- Blocks that are neither old nor the set's. -/
def Off (B b : Nat) (g : Option Nat) (x : Nat) : Prop := B ≤ x ∧ x ≠ b ∧ g ≠ some x
/-- A set and a list, apart. -/
structure St (B : Nat) (w : World) (b : Nat) (g : Option Nat) (ws : List Nat) (p q : Nat → Bool) (v : Value) : Prop where
  lies : SetAt w b g ws
  fit : Fit ws
  is : ∀ k, has ws k = p k
  list : SlS (Off B b g) w v (L q)
  newB : B ≤ b
  newG : ∀ x, g = some x → B ≤ x
theorem St.below {B : Nat} {w w' : World} {b : Nat} {g : Option Nat} {ws : List Nat} {p q : Nat → Bool} {v : Value} (h : St B w b g ws p q v) (hB : Below w.heap.size w w') : St B w' b g ws p q v :=
  ⟨h.lies.below hB, h.fit, h.is, h.list.below hB, h.newB, h.newG⟩
theorem St.fresh {B : Nat} {w : World} {b : Nat} {g : Option Nat} {ws : List Nat} {p q : Nat → Bool} {v : Value} (h : St B w b g ws p q v) : ∀ x, w.heap.size ≤ x → Off B b g x := fun x hx => by
  have h1 := h.lies.lt
  have h2 := h.newB
  refine ⟨by omega, by omega, fun e => ?_⟩
  subst e
  have := h.lies.glt
  omega
theorem St.put {B : Nat} {w w' : World} {b : Nat} {g : Option Nat} {ws : List Nat} {p q : Nat → Bool} {v v' : Value} {q' : Nat → Bool} (h : St B w b g ws p q v) (hs : SlS (Off B b g) w' v' (L q')) (hB : Below w.heap.size w w') : St B w' b g ws p q' v' :=
  ⟨h.lies.below hB, h.fit, h.is, hs, h.newB, h.newG⟩
theorem St.added {B : Nat} {w w' : World} {b : Nat} {g g' : Option Nat} {ws ws' : List Nat} {p q p1 p2 : Nat → Bool} {v : Value} (h : St B w b g ws p q v) (ha : Added (b :: g.toList) w w' b g g' ws ws' p1) (hp : ∀ k, p1 k = p2 k) : St B w' b g' ws' p2 q v := by
  have hb := h.lies.lt
  have hbB : B ≤ w.heap.size := by have := h.newB; omega
  refine ⟨ha.lies, ha.fit, fun k => (ha.is k).trans (hp k), ?_, h.newB, fun x hx => ?_⟩
  · have h1 : SlS (fun x => Off B b g x ∧ g' ≠ some x) w v (L q) := h.list.mono fun x hx ho => ⟨ho, fun e => by
      rcases ha.fresh x e with h2 | h2
      · exact ho.2.2 h2
      · omega⟩
    have h2 := h1.save ha.save fun k hk ho => by
      rcases List.mem_cons.1 hk with rfl | hk
      · exact ho.1.2.1 rfl
      · cases g with
        | none => simp at hk
        | some y => simp at hk; subst hk; exact ho.1.2.2 rfl
    exact h2.mono fun x _ ho => ⟨ho.1.1, ho.1.2.1, ho.2⟩
  · rcases ha.fresh x hx with h2 | h2
    · exact h.newG x h2
    · omega
theorem St.save {B : Nat} {w w' : World} {b : Nat} {g g' : Option Nat} {ws ws' : List Nat} {p q p1 : Nat → Bool} {v : Value} (h : St B w b g ws p q v) (ha : Added (b :: g.toList) w w' b g g' ws ws' p1) (hBw : B ≤ w.heap.size) : Below B w w' :=
  ha.save.below hBw fun k hk => by
    rcases List.mem_cons.1 hk with rfl | hk
    · exact h.newB
    · cases g with
      | none => simp at hk
      | some y => simp at hk; subst hk; exact h.newG _ rfl
theorem take_short {ws : List Nat} {m : Nat} (hf : Fit ws) : (ws.take m).length ≤ 1024 := by
  have := hf.short
  rw [List.length_take]; omega
theorem good_has {ws : List Nat} {p : Nat → Bool} (hf : Fit ws) (hp : ∀ k, has ws k = p k) (n : Int) : (decide (0 ≤ n) && has ws n.toNat) = (good n && p n.toNat) := by
  rw [hp]
  by_cases h0 : 0 ≤ n
  · by_cases h1 : n < 65536
    · simp [good, h0, h1]
    · have : p n.toNat = false := by rw [← hp]; exact has_high hf (by omega)
      simp [this]
  · simp [good, h0]
theorem cut_is {ws : List Nat} {p : Nat → Bool} (hf : Fit ws) (hp : ∀ k, has ws k = p k) (n : Int) (k : Nat) : (has ws k && !(decide (0 ≤ n) && k == n.toNat)) = (p k && !(good n && k == n.toNat)) := by
  rw [hp]
  by_cases hk : k = n.toNat
  · subst hk
    have := good_has hf hp n
    rw [hp] at this
    cases h1 : p n.toNat with
    | false => rfl
    | true =>
      rw [h1] at this
      simp only [Bool.and_true] at this
      simp [this]
  · have : (k == n.toNat) = false := by simpa using hk
    simp [this]
theorem next_list {ws xs : List Nat} {p : Nat → Bool} {n : Int} {k j : Nat} {ok : Bool} (hm : ∀ k, k ∈ xs ↔ k < 65536 ∧ p k = true) (hr : xs.Pairwise (· < ·)) (hf : Fit ws) (hp : ∀ k, has ws k = p k) (hN : NextIs (has ws) n.toNat k ok) (hP : Place xs n j) :
    (j < xs.length → ok = true ∧ xs.getD j 0 = k) ∧ (¬ j < xs.length → ok = false ∧ k = 0) := by
  have hat : ∀ i (hi : i < xs.length), xs.getD i 0 = xs[i] := fun i hi => by rw [List.getD_eq_getElem?_getD, List.getElem?_eq_getElem hi]; rfl
  constructor
  · intro hj
    have hmem : xs.getD j 0 ∈ xs := by rw [hat j hj]; exact List.getElem_mem hj
    have hm1 := (hm _).1 hmem
    have hhi := hP.high hj
    cases ok with
    | false =>
      have := (hN.no rfl).2 _ (show n.toNat ≤ xs.getD j 0 by omega)
      rw [hp, hm1.2] at this
      cases this
    | true =>
      obtain ⟨h1, h2, h3⟩ := hN.yes rfl
      refine ⟨rfl, ?_⟩
      rcases Nat.lt_trichotomy (xs.getD j 0) k with h | h | h
      · have := h3 _ (show n.toNat ≤ xs.getD j 0 by omega) h
        rw [hp, hm1.2] at this
        cases this
      · exact h
      · exfalso
        have hk : k ∈ xs := (hm k).2 ⟨by omega, by rw [← hp]; exact h1⟩
        obtain ⟨i, hi, rfl⟩ := List.getElem_of_mem hk
        have ei := hat i hi
        rcases Nat.lt_or_ge i j with hij | hij
        · have := hP.low i hij
          omega
        · rw [hat j hj] at h
          rcases Nat.eq_or_lt_of_le hij with h5 | h5
          · subst h5; omega
          · have := List.pairwise_iff_getElem.1 hr j i hj hi h5
            omega
  · intro hj
    cases ok with
    | false => exact ⟨rfl, (hN.no rfl).1⟩
    | true =>
      exfalso
      obtain ⟨h1, h2, _⟩ := hN.yes rfl
      have hk6 : k < 65536 := by
        rcases Nat.lt_or_ge k 65536 with h | h
        · exact h
        · rw [has_high hf h] at h1; cases h1
      have hk : k ∈ xs := (hm k).2 ⟨hk6, by rw [← hp]; exact h1⟩
      obtain ⟨i, hi, rfl⟩ := List.getElem_of_mem hk
      have ei := hat i hi
      have := hP.low i (by have := hP.le; omega)
      omega
theorem next_place {ws : List Nat} {p : Nat → Bool} {n : Int} {k j : Nat} {ok : Bool} (hf : Fit ws) (hp : ∀ k, has ws k = p k) (hN : NextIs (has ws) n.toNat k ok) (hP : Place (L p) n j) :
    (j < (L p).length → ok = true ∧ (L p).getD j 0 = k) ∧ (¬ j < (L p).length → ok = false ∧ k = 0) := next_list (fun _ => mem_L) (L_pair p) hf hp hN hP
theorem sl_cell {B : Nat → Prop} {w : World} {v : Value} {xs : List Nat} (h : SlS B w v xs) : ∃ g og cap, v = .slice (some ⟨g, og, none⟩) xs.length cap ∧ ∀ j, j < xs.length → w.cell? ⟨g, og + j, none⟩ = some (.int .i64 ((xs.getD j 0 : Nat) : Int)) := by
  obtain ⟨g, og, cap, rfl, _, a, cap2, h1, _, _, _, h5⟩ := h
  refine ⟨g, og, cap, rfl, fun j hj => ?_⟩
  rcases h5 with h5 | ⟨b, off, h6, _, h8⟩
  · have := congrArg List.length h5
    rw [ints_len] at this
    simp only [List.length_nil] at this
    omega
  · subst h6
    simp only [Value.slice.injEq, Option.some.injEq, Addr.mk.injEq] at h1
    obtain ⟨⟨rfl, rfl, _⟩, _⟩ := h1
    exact h8 j _ (ints_at xs j hj)

set_option maxRecDepth 100000 in
set_option maxHeartbeats 12800000 in
theorem law_c (v : Value) (ps : List (Int × Int)) (ask : Int) (w : World) (hv : HoldsA w v ps) (hz : ps.length ≤ 9223372036854775807) (hzw : ∀ z ∈ ps, z.2 ≤ 9223372036854775807) (hask : ask ≤ 9223372036854775807)
    (hT : TabAt 0 Lib.deBruijn64tab w)
    (hlv : ∀ x, Below w.heap.size w x → Calls Tryd.prog 19 #[] x fun e w' => e = .returned (.bool true) ∧ GoX.Calm x w') :
    Calls Tryd.prog 3 #[v, .int .i64 ask] w fun e w' => e = .returned (.bool true) ∧ GoX.Calm w w' := by
  have h0 : Hid (0 < w.heap.size) := World.block_lt_of_cell? _ _ (hT 0 (by decide))
  replace hT := hidden hT
  replace hlv := hidden hlv
  replace hask := hidden hask
  have hzw2 : Hid (∀ j, j < ps.length → (ps.getD j (0, 0)).2 ≤ 9223372036854775807) := fun j hj => hzw _ (by
    have e : ps.getD j (0, 0) = ps[j] := by rw [List.getD_eq_getElem?_getD, List.getElem?_eq_getElem hj]; rfl
    rw [e]; exact List.getElem_mem hj)
  have hnew := new_c (.slice none 0 0) [] w ⟨none, 0, rfl, .inl rfl⟩ (by simp) (fun z h => by cases h)
  obtain ⟨a, cap, rfl, hrow⟩ := hv
  replace hrow := hidden hrow
  clear hzw
  go_enter Tryd.func3, Tryd.ntmps3
  go_wp2_with fail
  refine hnew.mono ?_
  rintro e w1 ⟨b, rfl, g, ws, hM⟩
  clear hnew
  have hst : Hid (St w.heap.size (w1.alloc (.cells #[] 3)) b g ws (inL []) (inL []) (.slice (some ⟨w1.heap.size, 0, none⟩) 0 0)) := by
    have hB1 : Below w1.heap.size w1 (w1.alloc (.cells #[] 3)) := (Below.refl _ _).alloc (Nat.le_refl _) _
    have e0 : L (inL []) = [] := (L_congr fun k => rfl).trans L_none
    refine ⟨hM.lies.below hB1, hM.fit, hM.is, ?_, hM.fresh.1, hM.fresh.2⟩
    rw [e0]
    exact ⟨_, _, _, rfl, .inl rfl, ⟨_, _, rfl, Nat.le_refl _, fun h => rfl, fun x h => by cases h; rfl, .inl rfl⟩⟩
  have hBw1 : Hid (Below w.heap.size w (w1.alloc (.cells #[] 3))) := hM.below.alloc hM.below.size _
  clear hM
  go_wp2_with fail
  go_loopw [6, 7] (fun u i wr => ∃ (j : Nat) (p : Nat → Bool) (g : Option Nat) (ws : List Nat), j ≤ ps.length ∧ i = .int .i64 (j : Int) ∧ Hid (St w.heap.size wr b g ws p p u) ∧ Hid (Below w.heap.size w wr)) (fun _ i _ => ps.length - (intOf i).toNat)
  case atStart => exact ⟨0, inL [], g, ws, Nat.zero_le _, rfl, hst, hBw1⟩
  case round =>
    clear hst hBw1
    obtain ⟨j, p, g0, ws0, hj, rfl, hS, hBw⟩ := hrel
    by_cases hlt : j < ps.length ∧ j < 60
    · obtain ⟨hlt, hlt6⟩ := hlt
      have hj1 : (j : Int) < (ps.length : Int) := by omega
      have hj6 : (j : Int) < 60 := by omega
      rcases hrow.out with hr | ⟨ba, off, rfl, hba, hcs⟩
      · subst hr; simp at hlt
      obtain ⟨c0, c1⟩ := hcs j hlt
      have hn9 : Hid ((ps.getD j (0, 0)).2 ≤ 9223372036854775807) := hzw2.out j hlt
      clear hcs
      generalize (ps.getD j (0, 0)).1 = kind at *
      generalize (ps.getD j (0, 0)).2 = n at *
      have d0 : wr.cell? ⟨ba, off + j * 2, none⟩ = some (.int .i64 kind) := (hBw.out.cell (p := ⟨ba, _, none⟩) hba).trans c0
      have d1 : wr.cell? ⟨ba, off + j * 2 + 1, none⟩ = some (.int .i64 n) := (hBw.out.cell (p := ⟨ba, _, none⟩) hba).trans c1
      have hat := at_c u6 (L p) n wr hS.out.list.holds (by have := L_len p; omega)
      clear c0 c1
      go_wp2_with fail
      refine hat.mono ?_
      rintro e w2 ⟨ja, rfl, hpa, hB⟩
      rw [isAt_L hpa]
      replace d0 := (hB.cell (World.block_lt_of_cell? _ _ d0)).trans d0
      replace hS : Hid (St w.heap.size w2 b g0 ws0 p p u6) := hS.out.below hB
      replace hBw : Hid (Below w.heap.size w w2) := hBw.out.trans (hB.mono hBw.out.size)
      clear hB hpa hat d1 hba
      by_cases hk : kind = 1
      · have hk1 : (kind == (1 : Int)) = true := by simp [hk]
        have hcut := setcut_c b g0 ws0 n w2 hS.out.fit hS.out.lies hn9.out
        rw [good_has hS.out.fit hS.out.is] at hcut
        generalize ht : (good n && p n.toNat) = t at *
        replace ht := hidden ht
        replace hk := hidden hk
        go_wp2_with fail
        refine hcut.mono ?_
        rintro e w3 ⟨rfl, ws1, hA⟩
        have hBw3 : Hid (Below w.heap.size w w3) := hBw.out.trans (hS.out.save hA hBw.out.size)
        replace hS : Hid (St w.heap.size w3 b g0 ws1 (fun k => p k && !(good n && k == n.toNat)) p u6) := hS.out.added hA (cut_is hS.out.fit hS.out.is n)
        replace hBw := hBw3
        clear hA hcut hBw3 d0 hk1
        go_wp2_with fail
        refine (rcut_c u6 p n _ w3 hS.out.fresh hS.out.list).mono ?_
        rintro e w4 ⟨v1, rfl, hs1, hB⟩
        replace hS : Hid (St w.heap.size w4 b g0 ws1 (fun k => p k && !(good n && k == n.toNat)) (fun k => p k && !(good n && k == n.toNat)) v1) := hS.out.put hs1 hB
        replace hBw : Hid (Below w.heap.size w w4) := hBw.out.trans (hB.mono hBw.out.size)
        clear hs1 hB
        generalize (fun k => p k && !(good n && k == n.toNat)) = p1 at *
        obtain ⟨g1, hg1⟩ : ∃ g1, g1 = g0 := ⟨_, rfl⟩
        rw [← hg1] at hS
        clear hg1

        go_wp2_with fail
        have hSl := hS.out.list.holds
        refine (at_c v1 (L p1) ask _ hSl (by have := L_len p1; omega)).mono ?_
        rintro e wa ⟨ja, rfl, hpa, hB⟩
        have hia := isAt_L hpa
        rw [hia]
        replace hS : Hid (St w.heap.size wa b g1 ws1 p1 p1 v1) := hS.out.below hB
        replace hBw : Hid (Below w.heap.size w wa) := hBw.out.trans (hB.mono hBw.out.size)
        replace hpa := hidden hpa
        clear hB hSl hia
        go_wp2_with fail
        refine (next_c b g1 ws1 ask wa hS.out.fit hS.out.lies hask.out (tab_below hT.out hBw.out h0.out)).mono ?_
        rintro e wb ⟨k, ok, rfl, hN, rfl⟩
        have hnp := next_place hS.out.fit hS.out.is hN hpa.out
        have hhas := has_c b g1 ws1 ask wb hS.out.fit hS.out.lies hask.out
        rw [good_has hS.out.fit hS.out.is] at hhas
        have hle := lenE_c b g1 ws1 p1 wb hS.out.fit hS.out.is hS.out.lies
        obtain ⟨gl, ol, cl, rfl, hcell⟩ := sl_cell hS.out.list
        have hll := L_len p1
        clear hN hpa
        generalize (good ask && p1 ask.toNat) = t2 at *
        by_cases hja : ja < (L p1).length
        · obtain ⟨rfl, rfl⟩ := hnp.1 hja
          have hcj := hcell ja hja
          clear hnp hcell
          generalize (L p1).getD ja 0 = k at *
          generalize (L p1).length = N at *
          have hja1 : (ja : Int) < (N : Int) := by omega
          go_wp2_with fail
          refine hhas.mono ?_
          rintro e wc ⟨rfl, rfl⟩
          clear hhas
          go_wp2_with fail
          refine hle.mono ?_
          rintro e wd ⟨rfl, hB⟩
          replace hcj := (hB.cell (World.block_lt_of_cell? _ _ hcj)).trans hcj
          replace hS := hidden (hS.out.below hB)
          replace hBw : Hid (Below w.heap.size w wd) := hBw.out.trans (hB.mono hBw.out.size)
          clear hle hB
          go_wp2
          go_roundw
          case rel => exact ⟨j + 1, p1, g1, ws1, by omega, by go_num, hS, hBw⟩
          case measure => simp [intOf]; omega
        · obtain ⟨rfl, rfl⟩ := hnp.2 hja
          clear hnp hcell
          generalize (L p1).length = N at *
          have hja1 : ¬ (ja : Int) < (N : Int) := by omega
          go_wp2_with fail
          refine hhas.mono ?_
          rintro e wc ⟨rfl, rfl⟩
          clear hhas
          go_wp2_with fail
          refine hle.mono ?_
          rintro e wd ⟨rfl, hB⟩
          replace hS := hidden (hS.out.below hB)
          replace hBw : Hid (Below w.heap.size w wd) := hBw.out.trans (hB.mono hBw.out.size)
          clear hle hB
          go_wp2
          go_roundw
          case rel => exact ⟨j + 1, p1, g1, ws1, by omega, by go_num, hS, hBw⟩
          case measure => simp [intOf]; omega

      · have hk1 : (kind == (1 : Int)) = false := by simp [hk]
        have hadd := add_c b g0 ws0 n w2 hS.out.fit hS.out.lies hn9.out
        have hgood := fun w => refgood_c n w
        rw [hS.out.is] at hadd
        replace hk := hidden hk
        obtain ⟨p1, hp1⟩ : ∃ p1, p1 = fun k => p k || (good n && k == n.toNat) := ⟨_, rfl⟩
        have hpeq : Hid (∀ k, (has ws0 k || (good n && k == n.toNat)) = p1 k) := fun k => by rw [hS.out.is, hp1]
        have hLeq : Hid (L (fun k => p k || (good n && k == n.toNat)) = L p1) := by show _ = _; rw [hp1]
        clear hp1
        generalize hgn : good n = gn at *
        replace hgn := hidden hgn
        cases gn with
        | false =>

          go_wp2_with fail
          refine hadd.mono ?_
          rintro e w3 ⟨rfl, g1, ws1, hA⟩
          have hBw3 : Hid (Below w.heap.size w w3) := hBw.out.trans (hS.out.save hA hBw.out.size)
          replace hS : Hid (St w.heap.size w3 b g1 ws1 p1 p u6) := hS.out.added hA hpeq.out
          replace hBw := hBw3
          clear hA hadd hBw3 d0 hk1 hpeq
          go_wp2_with fail
          refine (hgood _).mono ?_
          rintro e w3 ⟨rfl, rfl⟩
          clear hgood
          have hrad := radd_c u6 p n _ w3 hS.out.fresh hS.out.list
          rw [hgn.out, hLeq.out] at hrad
          clear hLeq
          go_wp2_with fail
          refine hrad.mono ?_
          rintro e w4 ⟨v1, rfl, hs1, hB⟩
          replace hS : Hid (St w.heap.size w4 b g1 ws1 p1 p1 v1) := hS.out.put hs1 hB
          replace hBw : Hid (Below w.heap.size w w4) := hBw.out.trans (hB.mono hBw.out.size)
          clear hs1 hB hrad
          go_wp2_with fail
          have hSl := hS.out.list.holds
          refine (at_c v1 (L p1) ask _ hSl (by have := L_len p1; omega)).mono ?_
          rintro e wa ⟨ja, rfl, hpa, hB⟩
          have hia := isAt_L hpa
          rw [hia]
          replace hS : Hid (St w.heap.size wa b g1 ws1 p1 p1 v1) := hS.out.below hB
          replace hBw : Hid (Below w.heap.size w wa) := hBw.out.trans (hB.mono hBw.out.size)
          replace hpa := hidden hpa
          clear hB hSl hia
          go_wp2_with fail
          refine (next_c b g1 ws1 ask wa hS.out.fit hS.out.lies hask.out (tab_below hT.out hBw.out h0.out)).mono ?_
          rintro e wb ⟨k, ok, rfl, hN, rfl⟩
          have hnp := next_place hS.out.fit hS.out.is hN hpa.out
          have hhas := has_c b g1 ws1 ask wb hS.out.fit hS.out.lies hask.out
          rw [good_has hS.out.fit hS.out.is] at hhas
          have hle := lenE_c b g1 ws1 p1 wb hS.out.fit hS.out.is hS.out.lies
          obtain ⟨gl, ol, cl, rfl, hcell⟩ := sl_cell hS.out.list
          have hll := L_len p1
          clear hN hpa
          generalize (good ask && p1 ask.toNat) = t2 at *
          by_cases hja : ja < (L p1).length
          · obtain ⟨rfl, rfl⟩ := hnp.1 hja
            have hcj := hcell ja hja
            clear hnp hcell
            generalize (L p1).getD ja 0 = k at *
            generalize (L p1).length = N at *
            have hja1 : (ja : Int) < (N : Int) := by omega
            go_wp2_with fail
            refine hhas.mono ?_
            rintro e wc ⟨rfl, rfl⟩
            clear hhas
            go_wp2_with fail
            refine hle.mono ?_
            rintro e wd ⟨rfl, hB⟩
            replace hcj := (hB.cell (World.block_lt_of_cell? _ _ hcj)).trans hcj
            replace hS := hidden (hS.out.below hB)
            replace hBw : Hid (Below w.heap.size w wd) := hBw.out.trans (hB.mono hBw.out.size)
            clear hle hB
            go_wp2
            go_roundw
            case rel => exact ⟨j + 1, p1, g1, ws1, by omega, by go_num, hS, hBw⟩
            case measure => simp [intOf]; omega
          · obtain ⟨rfl, rfl⟩ := hnp.2 hja
            clear hnp hcell
            generalize (L p1).length = N at *
            have hja1 : ¬ (ja : Int) < (N : Int) := by omega
            go_wp2_with fail
            refine hhas.mono ?_
            rintro e wc ⟨rfl, rfl⟩
            clear hhas
            go_wp2_with fail
            refine hle.mono ?_
            rintro e wd ⟨rfl, hB⟩
            replace hS := hidden (hS.out.below hB)
            replace hBw : Hid (Below w.heap.size w wd) := hBw.out.trans (hB.mono hBw.out.size)
            clear hle hB
            go_wp2
            go_roundw
            case rel => exact ⟨j + 1, p1, g1, ws1, by omega, by go_num, hS, hBw⟩
            case measure => simp [intOf]; omega

        | true =>
          simp only [Bool.true_and] at hadd ⊢
          generalize p n.toNat = t at *

          go_wp2_with fail
          refine hadd.mono ?_
          rintro e w3 ⟨rfl, g1, ws1, hA⟩
          have hBw3 : Hid (Below w.heap.size w w3) := hBw.out.trans (hS.out.save hA hBw.out.size)
          replace hS : Hid (St w.heap.size w3 b g1 ws1 p1 p u6) := hS.out.added hA hpeq.out
          replace hBw := hBw3
          clear hA hadd hBw3 d0 hk1 hpeq
          go_wp2_with fail
          refine (hgood _).mono ?_
          rintro e w3 ⟨rfl, rfl⟩
          clear hgood
          have hrad := radd_c u6 p n _ w3 hS.out.fresh hS.out.list
          rw [hgn.out, hLeq.out] at hrad
          clear hLeq
          go_wp2_with fail
          refine hrad.mono ?_
          rintro e w4 ⟨v1, rfl, hs1, hB⟩
          replace hS : Hid (St w.heap.size w4 b g1 ws1 p1 p1 v1) := hS.out.put hs1 hB
          replace hBw : Hid (Below w.heap.size w w4) := hBw.out.trans (hB.mono hBw.out.size)
          clear hs1 hB hrad
          go_wp2_with fail
          have hSl := hS.out.list.holds
          refine (at_c v1 (L p1) ask _ hSl (by have := L_len p1; omega)).mono ?_
          rintro e wa ⟨ja, rfl, hpa, hB⟩
          have hia := isAt_L hpa
          rw [hia]
          replace hS : Hid (St w.heap.size wa b g1 ws1 p1 p1 v1) := hS.out.below hB
          replace hBw : Hid (Below w.heap.size w wa) := hBw.out.trans (hB.mono hBw.out.size)
          replace hpa := hidden hpa
          clear hB hSl hia
          go_wp2_with fail
          refine (next_c b g1 ws1 ask wa hS.out.fit hS.out.lies hask.out (tab_below hT.out hBw.out h0.out)).mono ?_
          rintro e wb ⟨k, ok, rfl, hN, rfl⟩
          have hnp := next_place hS.out.fit hS.out.is hN hpa.out
          have hhas := has_c b g1 ws1 ask wb hS.out.fit hS.out.lies hask.out
          rw [good_has hS.out.fit hS.out.is] at hhas
          have hle := lenE_c b g1 ws1 p1 wb hS.out.fit hS.out.is hS.out.lies
          obtain ⟨gl, ol, cl, rfl, hcell⟩ := sl_cell hS.out.list
          have hll := L_len p1
          clear hN hpa
          generalize (good ask && p1 ask.toNat) = t2 at *
          by_cases hja : ja < (L p1).length
          · obtain ⟨rfl, rfl⟩ := hnp.1 hja
            have hcj := hcell ja hja
            clear hnp hcell
            generalize (L p1).getD ja 0 = k at *
            generalize (L p1).length = N at *
            have hja1 : (ja : Int) < (N : Int) := by omega
            go_wp2_with fail
            refine hhas.mono ?_
            rintro e wc ⟨rfl, rfl⟩
            clear hhas
            go_wp2_with fail
            refine hle.mono ?_
            rintro e wd ⟨rfl, hB⟩
            replace hcj := (hB.cell (World.block_lt_of_cell? _ _ hcj)).trans hcj
            replace hS := hidden (hS.out.below hB)
            replace hBw : Hid (Below w.heap.size w wd) := hBw.out.trans (hB.mono hBw.out.size)
            clear hle hB
            go_wp2
            go_roundw
            case rel => exact ⟨j + 1, p1, g1, ws1, by omega, by go_num, hS, hBw⟩
            case measure => simp [intOf]; omega
          · obtain ⟨rfl, rfl⟩ := hnp.2 hja
            clear hnp hcell
            generalize (L p1).length = N at *
            have hja1 : ¬ (ja : Int) < (N : Int) := by omega
            go_wp2_with fail
            refine hhas.mono ?_
            rintro e wc ⟨rfl, rfl⟩
            clear hhas
            go_wp2_with fail
            refine hle.mono ?_
            rintro e wd ⟨rfl, hB⟩
            replace hS := hidden (hS.out.below hB)
            replace hBw : Hid (Below w.heap.size w wd) := hBw.out.trans (hB.mono hBw.out.size)
            clear hle hB
            go_wp2
            go_roundw
            case rel => exact ⟨j + 1, p1, g1, ws1, by omega, by go_num, hS, hBw⟩
            case measure => simp [intOf]; omega

    · have hvl := hS.out.list.holds
      have hls := listL_c b g0 ws0 p wr hS.out.fit hS.out.is hS.out.lies (tab_below hT.out hBw.out h0.out)
      replace hvl := hidden hvl
      by_cases hj1 : j < ps.length
      · have hj2 : ¬ (j : Int) < 60 := by omega
        have hj3 : (j : Int) < (ps.length : Int) := by omega
        clear hlt
        go_wp2_with fail
        refine hls.mono ?_
        rintro e w2 ⟨v1, rfl, hv1, hB⟩
        replace hv1 := hidden hv1
        replace hvl := hidden (hvl.out.below hB)
        replace hS := hidden (hS.out.below hB)
        replace hBw : Hid (Below w.heap.size w w2) := hBw.out.trans (hB.mono hBw.out.size)
        clear hls hB
        go_wp2_with fail
        refine (rsameT_c v1 u6 p p (fun _ _ => rfl) w2 hv1.out hvl.out).mono ?_
        rintro e w3 ⟨rfl, hB⟩
        replace hvl := hidden (hvl.out.below hB)
        replace hS := hidden (hS.out.below hB)
        replace hBw : Hid (Below w.heap.size w w3) := hBw.out.trans (hB.mono hBw.out.size)
        clear hB hv1
        go_wp2_with fail
        refine (wordsH_c b g0 ws0 w3 hS.out.fit hS.out.lies).mono ?_
        rintro e w4 ⟨v2, m2, rfl, hm2, hv2, hB⟩
        replace hm2 := hidden hm2
        replace hv2 := hidden hv2
        replace hvl := hidden (hvl.out.below hB)
        replace hS := hidden (hS.out.below hB)
        replace hBw : Hid (Below w.heap.size w w4) := hBw.out.trans (hB.mono hBw.out.size)
        clear hB
        go_wp2_with fail
        refine (rwords_c u6 p w4 hvl.out).mono ?_
        rintro e w5 ⟨v3, rfl, us3, hw3, hv3, hB⟩
        replace hw3 := hidden hw3
        replace hv3 := hidden hv3
        replace hv2 := hidden (hv2.out.below hB)
        replace hS := hidden (hS.out.below hB)
        replace hBw : Hid (Below w.heap.size w w5) := hBw.out.trans (hB.mono hBw.out.size)
        clear hB hvl
        go_wp2_with fail
        refine (wsame_c v2 v3 _ _ true ⟨fun _ => trim_wd hS.out.fit hm2.out hS.out.is hw3.out rfl, fun _ => rfl⟩ w5 hv2.out hv3.out (take_short hS.out.fit) hw3.out.fit.short).mono ?_
        rintro e w6 ⟨rfl, hB⟩
        replace hBw : Hid (Below w.heap.size w w6) := hBw.out.trans (hB.mono hBw.out.size)
        clear hB hv2 hv3 hm2 hw3 hS
        go_wp2_with fail
        refine (hlv.out w6 hBw.out).mono ?_
        rintro e w7 ⟨rfl, hC⟩
        have hfin : Hid (GoX.Calm w w7) := (GoX.Calm.of_below hBw.out).trans hC
        clear hC hBw
        go_wp2
        go_ret
        exact ⟨rfl, hfin.out⟩
      · have hj3 : ¬ (j : Int) < (ps.length : Int) := by omega
        clear hlt
        go_wp2_with fail
        refine hls.mono ?_
        rintro e w2 ⟨v1, rfl, hv1, hB⟩
        replace hv1 := hidden hv1
        replace hvl := hidden (hvl.out.below hB)
        replace hS := hidden (hS.out.below hB)
        replace hBw : Hid (Below w.heap.size w w2) := hBw.out.trans (hB.mono hBw.out.size)
        clear hls hB
        go_wp2_with fail
        refine (rsameT_c v1 u6 p p (fun _ _ => rfl) w2 hv1.out hvl.out).mono ?_
        rintro e w3 ⟨rfl, hB⟩
        replace hvl := hidden (hvl.out.below hB)
        replace hS := hidden (hS.out.below hB)
        replace hBw : Hid (Below w.heap.size w w3) := hBw.out.trans (hB.mono hBw.out.size)
        clear hB hv1
        go_wp2_with fail
        refine (wordsH_c b g0 ws0 w3 hS.out.fit hS.out.lies).mono ?_
        rintro e w4 ⟨v2, m2, rfl, hm2, hv2, hB⟩
        replace hm2 := hidden hm2
        replace hv2 := hidden hv2
        replace hvl := hidden (hvl.out.below hB)
        replace hS := hidden (hS.out.below hB)
        replace hBw : Hid (Below w.heap.size w w4) := hBw.out.trans (hB.mono hBw.out.size)
        clear hB
        go_wp2_with fail
        refine (rwords_c u6 p w4 hvl.out).mono ?_
        rintro e w5 ⟨v3, rfl, us3, hw3, hv3, hB⟩
        replace hw3 := hidden hw3
        replace hv3 := hidden hv3
        replace hv2 := hidden (hv2.out.below hB)
        replace hS := hidden (hS.out.below hB)
        replace hBw : Hid (Below w.heap.size w w5) := hBw.out.trans (hB.mono hBw.out.size)
        clear hB hvl
        go_wp2_with fail
        refine (wsame_c v2 v3 _ _ true ⟨fun _ => trim_wd hS.out.fit hm2.out hS.out.is hw3.out rfl, fun _ => rfl⟩ w5 hv2.out hv3.out (take_short hS.out.fit) hw3.out.fit.short).mono ?_
        rintro e w6 ⟨rfl, hB⟩
        replace hBw : Hid (Below w.heap.size w w6) := hBw.out.trans (hB.mono hBw.out.size)
        clear hB hv2 hv3 hm2 hw3 hS
        go_wp2_with fail
        refine (hlv.out w6 hBw.out).mono ?_
        rintro e w7 ⟨rfl, hC⟩
        have hfin : Hid (GoX.Calm w w7) := (GoX.Calm.of_below hBw.out).trans hC
        clear hC hBw
        go_wp2
        go_ret
        exact ⟨rfl, hfin.out⟩
end Go.Proofs.YtieinedancdokacDoor
