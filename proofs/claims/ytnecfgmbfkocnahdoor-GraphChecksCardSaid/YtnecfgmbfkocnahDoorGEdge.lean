/-
  A NODE THAT IS CHECKED: the program's, by contract.
-/
import Derived.Test.YtnecfgmbfkocnahDoorGSpec
import Derived.Test.YtnecfgmbfkocnahDoorGFew
namespace Go.Proofs.YtnecfgmbfkocnahDoor
open Go.ChangeShapes Go.WideShapes Go.ChangeAt Go.RowKit

/-- Texts that are not long. -/
def Pp.sm (p : Pp) : Prop := p.s.size ≤ 1000 ∧ p.t.size ≤ 1000
def Nd.sm (x : Nd) : Prop := x.l.size ≤ 1000 ∧ x.ps.length ≤ 1000 ∧ ∀ p ∈ x.ps, p.sm
theorem nodeE_bad {l : ByteArray} {ps : List Pp} (h : nameB l = true) (hb : ps.any badP = true) : nodeE ⟨l, ps⟩ = 2 := by simp [nodeE, h, hb]
theorem nodeE_name {l : ByteArray} {ps : List Pp} (h : nameB l = false) : nodeE ⟨l, ps⟩ = 2 := by simp [nodeE, h]
theorem nodeE_long {l : ByteArray} {ps : List Pp} (h : nameB l = true) (hb : ps.any badP = false) (hl : 8 < ps.length) : nodeE ⟨l, ps⟩ = 5 := by simp [nodeE, h, hb, hl]
theorem nodeE_dup {l : ByteArray} {ps : List Pp} (h : nameB l = true) (hb : ps.any badP = false) (hl : ¬ 8 < ps.length) (hd : dupTo ps ps.length = true) : nodeE ⟨l, ps⟩ = 6 := by simp [nodeE, h, hb, hl, hd]
theorem nodeE_ok {l : ByteArray} {ps : List Pp} (h : nameB l = true) (hb : ps.any badP = false) (hl : ¬ 8 < ps.length) (hd : dupTo ps ps.length = false) : nodeE ⟨l, ps⟩ = 0 := by simp [nodeE, h, hb, hl, hd]
set_option maxHeartbeats 6400000 in
set_option maxRecDepth 100000 in
theorem cnode_c (l : ByteArray) (ps : List Pp) (pa : Option Addr) (pn pc : Nat) (w : World) (hp : SlR propR w (.slice pa pn pc) ps) (hs : Nd.sm ⟨l, ps⟩) :
    Calls Tryd.prog 11 #[.agg #[.string l, .slice pa pn pc]] w fun e w' => e = .returned (.int .i64 (nodeE ⟨l, ps⟩)) ∧ Below w.heap.size w w' := by
  obtain ⟨pa', pc', heq, hcap, -, -, hrow⟩ := hp
  simp only [Value.slice.injEq] at heq
  obtain ⟨rfl, rfl, rfl⟩ := heq
  obtain ⟨hs1, hs2, hs3⟩ := hs
  simp only at hs1 hs2 hs3
  replace hs3 := hidden hs3
  have hnm := fun x => name_c l x hs1
  have hX := hidden (heap_alloc_new w (.cells #[.string l, .slice pa ps.length pc] 35))
  have hB0 : Hid (Below w.heap.size w (w.alloc (.cells #[.string l, .slice pa ps.length pc] 35))) := (Below.refl _ _).alloc (Nat.le_refl _) _
  obtain ⟨⟨b0, b1⟩, -⟩ := box2f hX.out
  replace hrow := hidden hrow
  cases hl : nameB l with
  | false =>
    have hE := hidden (nodeE_name (ps := ps) hl)
    have hl2 : decide (nameS l) = false := hl
    rw [hl2] at hnm
    replace hl := hidden hl
    clear hl2
    go_enter Tryd.func11, Tryd.ntmps11
    go_wp2_with fail
    refine (hnm _).mono ?_
    rintro e z ⟨rfl, rfl⟩
    clear hnm
    go_wp2
    go_ret
    exact ⟨by rw [hE.out]; first | done | rfl, hB0.out⟩
  | true =>
    have hl2 : decide (nameS l) = true := hl
    rw [hl2] at hnm
    replace hl := hidden hl
    clear hl2
    go_enter Tryd.func11, Tryd.ntmps11
    go_wp2_with fail
    refine (hnm _).mono ?_
    rintro e z ⟨rfl, rfl⟩
    clear hnm
    go_wp2_with fail
    go_loopw [16] (fun i x => ∃ j : Nat, j ≤ ps.length ∧ i = .int .i64 j ∧ Hid (∀ j', j' < j → badP (ps.getD j' Pp.none) = false) ∧ Hid (Below w.heap.size w x) ∧ Hid (x.heap[w.heap.size]? = some (.cells #[.string l, .slice pa ps.length pc] 35))) (fun i _ => ps.length - (intOf i).toNat)
    case atStart => exact ⟨0, Nat.zero_le _, rfl, fun j' h => by omega, hB0, hX⟩
    case round =>
      clear hX hB0 b0 b1
      obtain ⟨j, hj, rfl, hb, hB, hX⟩ := hrel
      obtain ⟨⟨b0, b1⟩, -⟩ := box2f hX.out
      by_cases hlt : j < ps.length
      · obtain ⟨b5, o5, rfl, hb5, e0, e1, e2, e3⟩ := prop_at hrow.out hlt
        have hany := hidden fun h => nodeE_bad (ps := ps) hl.out (any_bad hlt h)
        have hok : Hid (badP (ps.getD j Pp.none) = false → ∀ j', j' < j + 1 → badP (ps.getD j' Pp.none) = false) := fun h j' hj' => by
          rcases Nat.lt_or_ge j' j with h2 | h2
          · exact hb.out j' h2
          · obtain rfl : j' = j := by omega
            exact h
        have hsm : Hid ((ps.getD j Pp.none).sm) := by
          have e : ps.getD j Pp.none = ps[j] := by simp [List.getD, hlt]
          show Pp.sm _
          rw [e]; exact hs3.out _ (List.getElem_mem _)
        generalize ps.getD j Pp.none = q at *
        obtain ⟨qs, qk, qn, qt⟩ := q
        simp only at e0 e1 e2 e3
        have f0 := (hB.out.cell (p := ⟨b5, o5 + j * 4, none⟩) (by exact hb5)).trans e0
        have f1 := (hB.out.cell (p := ⟨b5, o5 + j * 4 + 1, none⟩) (by exact hb5)).trans e1
        have f2 := (hB.out.cell (p := ⟨b5, o5 + j * 4 + 2, none⟩) (by exact hb5)).trans e2
        have f3 := (hB.out.cell (p := ⟨b5, o5 + j * 4 + 3, none⟩) (by exact hb5)).trans e3
        have hi1 : (j : Int) < (ps.length : Int) := by omega
        have hPB := hidden (heap_alloc_new wr (.cells #[.string qs, .int .i64 qk, .int .i64 qn, .string qt] 39))
        have hXA := hidden ((heap_alloc_old wr (.cells #[.string qs, .int .i64 qk, .int .i64 qn, .string qt] 39) (Array.getElem?_eq_some_iff.1 hX.out).1).trans hX.out)
        have hBA : Hid (Below w.heap.size w (wr.alloc (.cells #[.string qs, .int .i64 qk, .int .i64 qn, .string qt] 39))) := hB.out.alloc hB.out.size _
        obtain ⟨⟨p0, p1, p2, p3⟩, -⟩ := box4f hPB.out
        have hnm := fun x => name_c qs x hsm.out.1
        have hgd := fun x => vgood_c qk qn qt x hsm.out.2
        clear e0 e1 e2 e3 hb hX hB b0 b1
        cases hq : decide (nameS qs) with
        | false =>
          have hE := hidden (hany.out (by show (!nameB qs || _) = true; rw [show nameB qs = false from hq]; rfl))
          rw [hq] at hnm
          replace hq := hidden hq
          clear hany hok hgd
          go_wp2_with fail
          refine (hnm _).mono ?_
          rintro e z ⟨rfl, rfl⟩
          clear hnm
          go_wp2
          go_ret
          exact ⟨by rw [hE.out]; first | done | rfl, hBA.out⟩
        | true =>
          rw [hq] at hnm
          cases hg : goodV qk qn qt with
          | false =>
            have hE := hidden (hany.out (by show (!nameB qs || (!goodV qk qn qt || _)) = true; rw [hg]; simp))
            rw [hg] at hgd
            replace hq := hidden hq
            replace hg := hidden hg
            clear hany hok
            go_wp2_with fail
            refine (hnm _).mono ?_
            rintro e z ⟨rfl, rfl⟩
            clear hnm
            go_wp2_with fail
            refine (hgd _).mono ?_
            rintro e w5 ⟨rfl, hB5⟩
            have hBL : Hid (Below w.heap.size w w5) := hBA.out.trans (hB5.mono hBA.out.size)
            clear hgd hB5 p0 p1 p2 p3
            go_wp2
            go_ret
            exact ⟨by rw [hE.out]; first | done | rfl, hBL.out⟩
          | true =>
            rw [hg] at hgd
            by_cases hk0 : qk = 0
            · have hE := hidden (hany.out (by show (!nameB qs || (!goodV qk qn qt || decide (qk = 0))) = true; rw [decide_eq_true hk0]; simp))
              have hk2 : (qk == 0) = true := by simp [hk0]
              replace hk0 := hidden hk0
              replace hq := hidden hq
              replace hg := hidden hg
              clear hany hok
              go_wp2_with fail
              refine (hnm _).mono ?_
              rintro e z ⟨rfl, rfl⟩
              clear hnm
              go_wp2_with fail
              refine (hgd _).mono ?_
              rintro e w5 ⟨rfl, hB5⟩
              have hBL : Hid (Below w.heap.size w w5) := hBA.out.trans (hB5.mono hBA.out.size)
              have hP5 := hidden (box_below hPB.out hB5)
              clear hgd hB5 p0 p1 p2 p3
              obtain ⟨⟨p0, p1, p2, p3⟩, -⟩ := box4f hP5.out
              go_wp2
              go_ret
              exact ⟨by rw [hE.out]; first | done | rfl, hBL.out⟩
            · have hok2 := hidden (hok.out (by show (!nameB qs || (!goodV qk qn qt || decide (qk = 0))) = false; rw [show nameB qs = true from hq, hg, decide_eq_false hk0]; rfl))
              have hk2 : (qk == 0) = false := by simp [hk0]
              replace hk0 := hidden hk0
              replace hq := hidden hq
              replace hg := hidden hg
              clear hany hok
              go_wp2_with fail
              refine (hnm _).mono ?_
              rintro e z ⟨rfl, rfl⟩
              clear hnm
              go_wp2_with fail
              refine (hgd _).mono ?_
              rintro e w5 ⟨rfl, hB5⟩
              have hBL : Hid (Below w.heap.size w w5) := hBA.out.trans (hB5.mono hBA.out.size)
              have hP5 := hidden (box_below hPB.out hB5)
              have hX5 := hidden (box_below hXA.out hB5)
              clear hgd hB5 p0 p1 p2 p3
              obtain ⟨⟨p0, p1, p2, p3⟩, -⟩ := box4f hP5.out
              go_wp2
              go_roundw
              case rel => exact ⟨j + 1, by omega, by go_num, hok2, hBL, hX5⟩
              case measure => simp [intOf]; omega
      · obtain rfl : j = ps.length := by omega
        have hnb := hidden (none_bad hb.out)
        clear hb hlt
        by_cases h8 : 8 < ps.length
        · have hE := hidden (nodeE_long hl.out hnb.out h8)
          have h8' : (8 : Int) < (ps.length : Int) := by omega
          go_wp2
          go_ret
          exact ⟨by rw [hE.out]; first | done | rfl, hB.out⟩
        · have h8' : ¬ (8 : Int) < (ps.length : Int) := by omega
          go_wp2_with fail
          clear b0 b1
          go_loopw [44] (fun i x => ∃ j : Nat, j ≤ ps.length ∧ i = .int .i64 j ∧ Hid (∀ i', i' < j → ∀ j', j' < i' → sameP ps i' j' = false) ∧ Hid (Below w.heap.size w x) ∧ Hid (x.heap[w.heap.size]? = some (.cells #[.string l, .slice pa ps.length pc] 35))) (fun i _ => ps.length - (intOf i).toNat)
          case atStart => exact ⟨0, Nat.zero_le _, rfl, fun j' h => by omega, hB, hX⟩
          case round =>
            clear hX hB
            obtain ⟨j, hj, rfl, hd, hB, hX⟩ := hrel
            by_cases hlt : j < ps.length
            · obtain ⟨b5, o5, rfl, hb5, e0, e1, e2, e3⟩ := prop_at hrow.out hlt
              have hq0 : Hid (∀ m, sameP ps j m = ((ps.getD j Pp.none).s.toList == (ps.getD m Pp.none).s.toList)) := fun m => rfl
              generalize ps.getD j Pp.none = q at *
              obtain ⟨qs, qk, qn, qt⟩ := q
              simp only at e0 e1 e2 e3
              have f0 := (hB.out.cell (p := ⟨b5, o5 + j * 4, none⟩) (by exact hb5)).trans e0
              have f1 := (hB.out.cell (p := ⟨b5, o5 + j * 4 + 1, none⟩) (by exact hb5)).trans e1
              have f2 := (hB.out.cell (p := ⟨b5, o5 + j * 4 + 2, none⟩) (by exact hb5)).trans e2
              have f3 := (hB.out.cell (p := ⟨b5, o5 + j * 4 + 3, none⟩) (by exact hb5)).trans e3
              have hi1 : (j : Int) < (ps.length : Int) := by omega
              have hi2 : (j : Int) ≤ (pc : Int) := by omega
              have hi3 : ¬ pc = 0 := by omega
              have hPB := hidden (heap_alloc_new wr (.cells #[.string qs, .int .i64 qk, .int .i64 qn, .string qt] 39))
              have hXA := hidden ((heap_alloc_old wr (.cells #[.string qs, .int .i64 qk, .int .i64 qn, .string qt] 39) (Array.getElem?_eq_some_iff.1 hX.out).1).trans hX.out)
              have hBA : Hid (Below w.heap.size w (wr.alloc (.cells #[.string qs, .int .i64 qk, .int .i64 qn, .string qt] 39))) := hB.out.alloc hB.out.size _
              obtain ⟨⟨b0, b1⟩, -⟩ := box2f hXA.out
              clear e0 e1 e2 e3 hX hB
              go_wp2_with fail
              clear b0 b1 f0 f1 f2 f3
              go_loopw [54] (fun i x => ∃ m : Nat, m ≤ j ∧ i = .int .i64 m ∧ Hid (∀ m', m' < m → sameP ps j m' = false) ∧ Hid (Below w.heap.size w x) ∧ Hid (x.heap[w.heap.size]? = some (.cells #[.string l, .slice (some ⟨b5, o5, none⟩) ps.length pc] 35)) ∧ Hid (x.heap[wr.heap.size]? = some (.cells #[.string qs, .int .i64 qk, .int .i64 qn, .string qt] 39))) (fun i _ => j - (intOf i).toNat)
              case atStart => exact ⟨0, Nat.zero_le _, rfl, fun j' h => by omega, hBA, hXA, hPB⟩
              case round =>
                clear hPB hXA hBA
                obtain ⟨m, hm, rfl, hsm, hB, hX, hP⟩ := hrel
                by_cases hlt2 : m < j
                · obtain ⟨b6, o6, hbe, hb6, e0, e1, e2, e3⟩ := prop_at hrow.out (show m < ps.length by omega)
                  simp only [Option.some.injEq, Addr.mk.injEq] at hbe
                  obtain ⟨rfl, rfl, -⟩ := hbe
                  have hsE := hidden (hq0.out m)
                  have hdup := hidden fun h => nodeE_dup (ps := ps) hl.out hnb.out h8 (dup_at hlt hlt2 h)
                  have hnx : Hid (sameP ps j m = false → ∀ m', m' < m + 1 → sameP ps j m' = false) := fun h m' hm' => by
                    rcases Nat.lt_or_ge m' m with h2 | h2
                    · exact hsm.out m' h2
                    · obtain rfl : m' = m := by omega
                      exact h
                  generalize ps.getD m Pp.none = o at *
                  obtain ⟨os, ok, on, ot⟩ := o
                  simp only at e0 e1 e2 e3
                  have f0 := (hB.out.cell (p := ⟨b5, o5 + m * 4, none⟩) (by exact hb5)).trans e0
                  have f1 := (hB.out.cell (p := ⟨b5, o5 + m * 4 + 1, none⟩) (by exact hb5)).trans e1
                  have f2 := (hB.out.cell (p := ⟨b5, o5 + m * 4 + 2, none⟩) (by exact hb5)).trans e2
                  have f3 := (hB.out.cell (p := ⟨b5, o5 + m * 4 + 3, none⟩) (by exact hb5)).trans e3
                  have hi4 : (m : Int) < (j : Int) := by omega
                  have hOB := hidden (heap_alloc_new wr (.cells #[.string os, .int .i64 ok, .int .i64 on, .string ot] 39))
                  have hXA := hidden ((heap_alloc_old wr (.cells #[.string os, .int .i64 ok, .int .i64 on, .string ot] 39) (Array.getElem?_eq_some_iff.1 hX.out).1).trans hX.out)
                  have hPA := hidden ((heap_alloc_old wr (.cells #[.string os, .int .i64 ok, .int .i64 on, .string ot] 39) (Array.getElem?_eq_some_iff.1 hP.out).1).trans hP.out)
                  have hBA : Hid (Below w.heap.size w (wr.alloc (.cells #[.string os, .int .i64 ok, .int .i64 on, .string ot] 39))) := hB.out.alloc hB.out.size _
                  obtain ⟨⟨p0, p1, p2, p3⟩, -⟩ := box4f hPA.out
                  obtain ⟨⟨r0, r1, r2, r3⟩, -⟩ := box4f hOB.out
                  clear e0 e1 e2 e3 hsm hX hB hP
                  cases hsv : sameP ps j m with
                  | true =>
                    have g1 : (qs.toList == os.toList) = true := hsE.out.symm.trans hsv
                    have hE := hidden (hdup.out hsv)
                    replace hsv := hidden hsv
                    clear hdup hnx hsE
                    go_wp2
                    go_ret
                    exact ⟨by rw [hE.out]; first | done | rfl, hBA.out⟩
                  | false =>
                    have g1 : (qs.toList == os.toList) = false := hsE.out.symm.trans hsv
                    have hnx2 := hidden (hnx.out hsv)
                    replace hsv := hidden hsv
                    clear hdup hnx hsE
                    go_wp2
                    go_roundw
                    case rel => exact ⟨m + 1, by omega, by go_num, hnx2, hBA, hXA, hPA⟩
                    case measure => simp [intOf]; omega
                · obtain rfl : m = j := by omega
                  have hd2 : Hid (∀ i', i' < m + 1 → ∀ j', j' < i' → sameP ps i' j' = false) := fun i' hi' => by
                    rcases Nat.lt_or_ge i' m with h2 | h2
                    · exact hd.out i' h2
                    · obtain rfl : i' = m := by omega
                      exact hsm.out
                  have hi4 : ¬ (m : Int) < (m : Int) := by omega
                  clear hsm hd hP
                  go_wp2
                  go_roundw
                  case rel => exact ⟨m + 1, by omega, by go_num, hd2, hB, hX⟩
                  case measure => simp [intOf]; omega
            · obtain rfl : j = ps.length := by omega
              have hE := hidden (nodeE_ok hl.out hnb.out h8 (dup_none hd.out))
              have hi1 : ¬ (ps.length : Int) < (ps.length : Int) := by omega
              clear hd
              go_wp2
              go_ret
              exact ⟨by rw [hE.out]; first | done | rfl, hB.out⟩
end Go.Proofs.YtnecfgmbfkocnahDoor
/-
  AN EDGE THAT IS CHECKED: the program's, by contract.
-/
namespace Go.Proofs.YtnecfgmbfkocnahDoor
open Go.ChangeShapes Go.WideShapes Go.ChangeAt Go.RowKit

theorem edgeE_name {n : Nat} {f t : Int} {l : ByteArray} {w : Int} (h : nameB l = false) : edgeE n ⟨f, t, l, w⟩ = 2 := by simp [edgeE, h]
theorem edgeE_arg {n : Nat} {f t : Int} {l : ByteArray} {w : Int} (h : nameB l = true) (hx : f < 0 ∨ (n : Int) ≤ f ∨ t < 0 ∨ (n : Int) ≤ t ∨ w < 0 ∨ 1000000 < w) : edgeE n ⟨f, t, l, w⟩ = 1 := by simp only [edgeE, h, if_true]; rw [if_pos hx]
theorem edgeE_ok {n : Nat} {f t : Int} {l : ByteArray} {w : Int} (h : nameB l = true) (hx : ¬ (f < 0 ∨ (n : Int) ≤ f ∨ t < 0 ∨ (n : Int) ≤ t ∨ w < 0 ∨ 1000000 < w)) : edgeE n ⟨f, t, l, w⟩ = 0 := by simp only [edgeE, h, if_true]; rw [if_neg hx]
set_option maxHeartbeats 3200000 in
set_option maxRecDepth 100000 in
theorem cedge_c (f t : Int) (l : ByteArray) (wt : Int) (n : Nat) (w : World) (hs : l.size ≤ 1000) :
    Calls Tryd.prog 12 #[.agg #[.int .i64 f, .int .i64 t, .string l, .int .i64 wt], .int .i64 (n : Int)] w fun e w' => e = .returned (.int .i64 (edgeE n ⟨f, t, l, wt⟩)) ∧ Below w.heap.size w w' := by
  have hnm := fun x => name_c l x hs
  have hX := heap_alloc_new w (.cells #[.int .i64 f, .int .i64 t, .string l, .int .i64 wt] 42)
  have hB0 : Hid (Below w.heap.size w (w.alloc (.cells #[.int .i64 f, .int .i64 t, .string l, .int .i64 wt] 42))) := (Below.refl _ _).alloc (Nat.le_refl _) _
  obtain ⟨⟨b0, b1, b2, b3⟩, -⟩ := box4f hX
  clear hX
  cases hl : nameB l with
  | false =>
    have hE := hidden (edgeE_name (n := n) (f := f) (t := t) (w := wt) hl)
    rw [show decide (nameS l) = false from hl] at hnm
    replace hl := hidden hl
    go_enter Tryd.func12, Tryd.ntmps12
    go_wp2_with fail
    refine (hnm _).mono ?_
    rintro e z ⟨rfl, rfl⟩
    go_wp2
    go_ret
    exact ⟨by rw [hE.out]; first | done | rfl, hB0.out⟩
  | true =>
    rw [show decide (nameS l) = true from hl] at hnm
    replace hl := hidden hl
    by_cases hx : f < 0 ∨ (n : Int) ≤ f ∨ t < 0 ∨ (n : Int) ≤ t ∨ wt < 0 ∨ 1000000 < wt
    · have hE := hidden (edgeE_arg hl.out hx)
      replace hx := hidden hx
      go_enter Tryd.func12, Tryd.ntmps12
      go_wp2_with fail
      refine (hnm _).mono ?_
      rintro e z ⟨rfl, rfl⟩
      go_wp2
      all_goals
        go_ret
        first
          | exact ⟨by rw [hE.out]; first | done | rfl, hB0.out⟩
          | (exfalso; have h9 := hx.out; omega)
    · have hE := hidden (edgeE_ok hl.out hx)
      have x1 : ¬ f < 0 := fun h => hx (by omega)
      have x2 : ¬ (n : Int) ≤ f := fun h => hx (by omega)
      have x3 : ¬ t < 0 := fun h => hx (by omega)
      have x4 : ¬ (n : Int) ≤ t := fun h => hx (by omega)
      have x5 : ¬ wt < 0 := fun h => hx (by omega)
      have x6 : ¬ 1000000 < wt := fun h => hx (by omega)
      clear hx
      go_enter Tryd.func12, Tryd.ntmps12
      go_wp2_with fail
      refine (hnm _).mono ?_
      rintro e z ⟨rfl, rfl⟩
      go_wp2
      go_ret
      exact ⟨by rw [hE.out]; first | done | rfl, hB0.out⟩
end Go.Proofs.YtnecfgmbfkocnahDoor
