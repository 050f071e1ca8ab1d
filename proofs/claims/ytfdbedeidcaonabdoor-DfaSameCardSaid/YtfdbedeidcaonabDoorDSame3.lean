/-
  TWO AUTOMATA HELD AGAINST EACH OTHER: rows of bools, rows of rows, by contract.
-/
import Derived.Test.YtfdbedeidcaonabDoorDSame
import Derived.Test.YtfdbedeidcaonabDoorShelf
namespace Go.Proofs.YtfdbedeidcaonabDoor
open Go.ChangeShapes Go.WideShapes Go.ChangeAt Go.RowKit

set_option maxHeartbeats 3200000 in
set_option maxRecDepth 100000 in
theorem boolsame_c (va vb : Value) (xs ys : List Bool) (w : World) (hva : HoldsR boolR w va xs) (hvb : HoldsR boolR w vb ys) (hx : xs.length ≤ 1000) :
    Calls Tryd.prog 17 #[va, vb] w fun e w' => e = .returned (.bool (eqAll (· == ·) false xs ys)) ∧ Below w.heap.size w w' := by
  obtain ⟨a, cap, rfl, hra⟩ := hva
  obtain ⟨b, cap', rfl, hrb⟩ := hvb
  by_cases hl : xs.length = ys.length
  · have hl1 : ((xs.length : Int) != (ys.length : Int)) = false := by simp [hl]
    replace hl := hidden hl
    go_enter Tryd.func17, Tryd.ntmps17
    go_wp2
    go_loopw [13] (fun i wr => ∃ k : Nat, k ≤ xs.length ∧ i = .int .i64 k ∧ Hid (∀ j, j < k → (xs.getD j false == ys.getD j false) = true) ∧ Hid (Below w.heap.size w wr))
      (fun i _ => xs.length - (intOf i).toNat)
    case atStart => exact ⟨0, Nat.zero_le _, rfl, fun j hj => by omega, Below.refl _ _⟩
    case round =>
      clear hl1
      obtain ⟨k, hk, rfl, ht, hnx⟩ := hrel
      by_cases hlt : k < xs.length
      · have hlt2 : k < ys.length := by have := hl.out; omega
        obtain ⟨b1, o1, rfl, hb1, c0⟩ := bool_at (hra.below hnx.out) hlt
        obtain ⟨b2, o2, rfl, hb2, d0⟩ := bool_at (hrb.below hnx.out) hlt2
        have hno := hidden fun h => eqAll_no (f := (· == ·)) (d := false) (xs := xs) (ys := ys) (k := k) hlt h
        have hok : Hid ((xs.getD k false == ys.getD k false) = true → ∀ j, j < k + 1 → (xs.getD j false == ys.getD j false) = true) := fun h j hj => by
          rcases Nat.lt_or_ge j k with h2 | h2
          · exact ht.out j h2
          · obtain rfl : j = k := by omega
            exact h
        generalize xs.getD k false = x at *
        generalize ys.getD k false = y at *
        replace hra := hidden hra
        replace hrb := hidden hrb
        have hj1 : (k : Int) < (xs.length : Int) := by omega
        have hj2 : (k : Int) < (ys.length : Int) := by omega
        by_cases e1 : x = y
        · subst e1
          have hok2 := hidden (hok.out (by simp))
          clear hok hno
          go_wp2
          go_quiet (fail)
          go_wp2
          go_roundw
          case rel => exact ⟨k + 1, by omega, by go_num, hok2, by first | exact hnx.out.drew | exact below_drewN hnx.out _⟩
          case measure => simp [intOf]; omega
        · have hno2 : Hid (eqAll (· == ·) false xs ys = false) := hno.out (by simpa using e1)
          have g3 : (x == y) = false := by simpa using e1
          clear hok hno
          go_wp2
          go_quiet (fail)
          go_wp2
          go_ret
          exact ⟨by rw [hno2.out]; first | done | rfl, by first | exact hnx.out.drew | exact below_drewN hnx.out _⟩
      · have hall := hidden (eqAll_all (f := (· == ·)) (d := false) hl.out fun j hj => ht.out j (by omega))
        clear ht
        go_wp2
        go_ret
        exact ⟨by rw [hall.out]; first | done | rfl, hnx.out⟩
  · have e := hidden (eqAll_len (f := (· == ·)) (d := false) hl)
    have hl' : ((xs.length : Int) != (ys.length : Int)) = true := by simp; omega
    go_enter Tryd.func17, Tryd.ntmps17
    go_wp2
    go_ret
    exact ⟨by rw [e.out]; first | done | rfl, Below.refl _ _⟩
theorem drewN_below (w : World) (q : Nat) : Below w.heap.size w (w.drewN q) := below_drewN (Below.refl _ _) q
theorem intsame_c (va vb : Value) (xs ys : List Int) (w : World) (hva : HoldsR intR w va xs) (hvb : HoldsR intR w vb ys) (hx : xs.length ≤ 1000) (hy : ys.length ≤ 1000) :
    Calls Tryd.prog 15 #[va, vb] w fun e w' => e = .returned (.bool (decide (xs = ys))) ∧ Below w.heap.size w w' := by
  obtain ⟨a, cap, rfl, hra⟩ := hva
  obtain ⟨b, cap', rfl, hrb⟩ := hvb
  rw [flat_ints] at hra hrb
  by_cases hl : xs.length = ys.length
  · rcases hra with h0 | ⟨b1, o1, rfl, _, h1⟩
    · obtain rfl : xs = [] := List.map_eq_nil_iff.1 h0
      have hy0 : ys = [] := List.eq_nil_of_length_eq_zero hl.symm
      subst hy0
      refine (Tryd.slices_Equal_int_empty a b cap 0 cap' w (by omega)).mono ?_
      rintro e w' ⟨rfl, rfl⟩
      exact ⟨rfl, Below.refl _ _⟩
    · rcases hrb with h0 | ⟨b2, o2, rfl, _, h2⟩
      · obtain rfl : ys = [] := List.map_eq_nil_iff.1 h0
        have hx0 : xs = [] := List.eq_nil_of_length_eq_zero hl
        subst hx0
        refine (Tryd.slices_Equal_int_empty _ b cap 0 cap' w (by omega)).mono ?_
        rintro e w' ⟨rfl, rfl⟩
        exact ⟨rfl, Below.refl _ _⟩
      · refine (Tryd.slices_Equal_int b1 o1 xs.length cap b2 o2 ys.length cap' xs ys w (Nat.le_refl _) (Nat.le_refl _) (by omega) (by omega) (fun j hj => h1 j _ (by simp [List.getD, hj])) (fun j hj => h2 j _ (by simp [List.getD, hj]))).mono ?_
        rintro e w' ⟨rfl, q, rfl⟩
        refine ⟨?_, drewN_below _ _⟩
        rw [List.take_of_length_le (Nat.le_refl _), List.take_of_length_le (Nat.le_refl _)]
        by_cases h : xs = ys <;> simp [h]
  · refine (Tryd.slices_Equal_int_lens a b xs.length cap ys.length cap' w hl).mono ?_
    rintro e w' ⟨rfl, rfl⟩
    exact ⟨by rw [decide_eq_false (fun h => hl (by rw [h]))], Below.refl _ _⟩
theorem rowfn_c (va vb : Value) (xs ys : List Int) (w : World) (hva : HoldsR intR w va xs) (hvb : HoldsR intR w vb ys) (hx : xs.length ≤ 1000) (hy : ys.length ≤ 1000) :
    Calls Tryd.prog 14 #[va, vb] w fun e w' => e = .returned (.bool (decide (xs = ys))) ∧ Below w.heap.size w w' := by
  have h := intsame_c va vb xs ys w hva hvb hx hy
  obtain ⟨a, cap, rfl, -⟩ := hva
  obtain ⟨b, cap', rfl, -⟩ := hvb
  generalize decide (xs = ys) = c at *
  go_enter Tryd.func14, Tryd.ntmps14
  go_wp2_with fail
  refine h.mono ?_
  rintro e w1 ⟨rfl, hB⟩
  replace hB := hidden hB
  go_wp2
  go_ret
  exact ⟨rfl, hB.out⟩
end Go.Proofs.YtfdbedeidcaonabDoor
/-
  TWO AUTOMATA HELD AGAINST EACH OTHER: the program's dfa.Same, by contract.
-/
namespace Go.Proofs.YtfdbedeidcaonabDoor
open Go.ChangeShapes Go.WideShapes Go.ChangeAt Go.RowKit

def rowEq (x y : List Int) : Bool := decide (x = y)
set_option maxHeartbeats 3200000 in
set_option maxRecDepth 100000 in
theorem rowsame_c (va vb : Value) (xs ys : List (List Int)) (w : World) (hva : HoldsRows w va xs) (hvb : HoldsRows w vb ys) (hx : xs.length ≤ 1000) (hx2 : ∀ j, j < xs.length → (xs.getD j []).length ≤ 1000) (hy2 : ∀ j, j < ys.length → (ys.getD j []).length ≤ 1000) :
    Calls Tryd.prog 18 #[va, vb, .func (.func 14) #[] #[]] w fun e w' => e = .returned (.bool (eqAll rowEq [] xs ys)) ∧ Below w.heap.size w w' := by
  obtain ⟨a, cap, rfl⟩ := hva.slice
  obtain ⟨b, cap', rfl⟩ := hvb.slice
  replace hva := hidden hva
  replace hvb := hidden hvb
  replace hx2 := hidden hx2
  replace hy2 := hidden hy2
  by_cases hl : xs.length = ys.length
  · have hl1 : ((xs.length : Int) == (ys.length : Int)) = true := by simp [hl]
    replace hl := hidden hl
    go_enter Tryd.func18, Tryd.ntmps18
    go_wp2
    go_loopw [17] (fun i wr => ∃ k : Nat, k ≤ xs.length ∧ i = .int .i64 k ∧ Hid (∀ j, j < k → rowEq (xs.getD j []) (ys.getD j []) = true) ∧ Hid (Below w.heap.size w wr))
      (fun i _ => xs.length - (intOf i).toNat)
    case atStart => exact ⟨0, Nat.zero_le _, rfl, fun j hj => by omega, Below.refl _ _⟩
    case round =>
      clear hl1
      rename_i h0 K0 a0
      clear h0
      obtain ⟨k, hk, rfl, ht, hnx⟩ := hrel
      by_cases hlt : k < xs.length
      · have hlt2 : k < ys.length := by have := hl.out; omega
        obtain ⟨b1, o1, p1, q1, r1, rfl, hb1, c0, hh1⟩ := nrow_at (hva.out.calm (.of_below hnx.out)) hlt
        obtain ⟨b2, o2, p2, q2, r2, rfl, hb2, d0, hh2⟩ := nrow_at (hvb.out.calm (.of_below hnx.out)) hlt2
        have hno := hidden fun h => eqAll_no (f := rowEq) (d := []) (xs := xs) (ys := ys) (k := k) hlt h
        have hok : Hid (rowEq (xs.getD k []) (ys.getD k []) = true → ∀ j, j < k + 1 → rowEq (xs.getD j []) (ys.getD j []) = true) := fun h j hj => by
          rcases Nat.lt_or_ge j k with h2 | h2
          · exact ht.out j h2
          · obtain rfl : j = k := by omega
            exact h
        have hcall := fun z (hB : Below wr.heap.size wr z) => rowfn_c _ _ _ _ z (hh1.below hB) (hh2.below hB) (hx2.out k hlt) (hy2.out k hlt2)
        generalize hc : decide (xs.getD k [] = ys.getD k []) = c at *
        have hc2 : Hid (rowEq (xs.getD k []) (ys.getD k []) = c) := hc
        clear hc
        have hj1 : (k : Int) < (xs.length : Int) := by omega
        have hj2 : (k : Int) < (ys.length : Int) := by omega
        have hsz := hidden hnx.out.size
        have hcall0 := hcall wr (Below.refl _ _)
        clear hcall hh1 hh2
        go_wp2_with fail
        refine hcall0.mono ?_
        rintro e w1 ⟨rfl, hB1⟩
        have hBL : Hid (Below w.heap.size w w1) := hnx.out.trans (hB1.mono hsz.out)
        clear hB1 hcall0 c0 d0 hsz hnx
        cases c with
        | true =>
          have hok2 := hidden (hok.out hc2.out)
          clear hok hno
          go_wp2
          go_roundw
          case rel => exact ⟨k + 1, by omega, by go_num, hok2, hBL⟩
          case measure => simp [intOf]; omega
        | false =>
          have hno2 : Hid (eqAll rowEq [] xs ys = false) := hno.out hc2.out
          clear hok hno
          go_wp2
          go_ret
          exact ⟨by rw [hno2.out]; first | done | rfl, hBL.out⟩
      · have hall := hidden (eqAll_all (f := rowEq) (d := []) hl.out fun j hj => ht.out j (by omega))
        clear ht
        go_wp2
        go_ret
        exact ⟨by rw [hall.out]; first | done | rfl, hnx.out⟩
  · have e := hidden (eqAll_len (f := rowEq) (d := []) hl)
    have hl' : ((xs.length : Int) == (ys.length : Int)) = false := by simp; omega
    go_enter Tryd.func18, Tryd.ntmps18
    go_wp2
    go_ret
    exact ⟨by rw [e.out]; first | done | rfl, Below.refl _ _⟩
theorem box3s {x : World} {b : Nat} {c0 c1 c2 : Value} {t : TypeId} (h : x.heap[b]? = some (.cells #[c0, c1, c2] t)) :
    (x.cell? ⟨b, 0, none⟩ = some c0 ∧ x.cell? ⟨b, 1, none⟩ = some c1 ∧ x.cell? ⟨b, 2, none⟩ = some c2) ∧ x.frozen? ⟨b, 0, none⟩ = false ∧ x.frozen? ⟨b, 1, none⟩ = false ∧ x.frozen? ⟨b, 2, none⟩ = false := by
  simp [World.cell?, World.frozen?, h]
/-- Two automata are the same. -/
def dEq (x y : Df) : Bool := eqAll symEq Sy.none x.ss y.ss && eqAll (· == ·) false x.ac y.ac && eqAll rowEq [] x.ns y.ns
def Df.small (x : Df) : Prop := x.ss.length ≤ 1000 ∧ x.ac.length ≤ 1000 ∧ x.ns.length ≤ 1000 ∧ ∀ j, j < x.ns.length → (x.ns.getD j []).length ≤ 1000
set_option maxHeartbeats 3200000 in
set_option maxRecDepth 100000 in
theorem dsame_c (s1 n1 a1 s2 n2 a2 : Value) (x y : Df) (w : World) (h1 : HoldsD w s1 n1 a1 x) (h2 : HoldsD w s2 n2 a2 y) (hx : x.small) (hy : y.small) :
    Calls Tryd.prog 6 #[.agg #[s1, n1, a1], .agg #[s2, n2, a2]] w fun e w' => e = .returned (.bool (dEq x y)) ∧ Below w.heap.size w w' := by
  obtain ⟨x1, x2, x3, x4⟩ := hx
  obtain ⟨y1, y2, y3, y4⟩ := hy
  have hB0 : Below w.heap.size w ((w.alloc (.cells #[s1, n1, a1] 26)).alloc (.cells #[s2, n2, a2] 26)) := ((Below.refl _ _).alloc (Nat.le_refl _) _).alloc (by show _ ≤ (w.heap.push _).size; simp) _
  have hx1 : ((w.alloc (.cells #[s1, n1, a1] 26)).alloc (.cells #[s2, n2, a2] 26)).heap[w.heap.size]? = some (.cells #[s1, n1, a1] 26) := by
    show ((w.heap.push _).push _)[_]? = _
    simp [Array.getElem?_push]
  have hx2 : ((w.alloc (.cells #[s1, n1, a1] 26)).alloc (.cells #[s2, n2, a2] 26)).heap[w.heap.size + 1]? = some (.cells #[s2, n2, a2] 26) := by
    show ((w.heap.push _).push _)[_]? = _
    rw [Array.getElem?_push, if_pos (by simp)]
  obtain ⟨⟨e0, e1, e2⟩, -⟩ := box3s hx1
  obtain ⟨⟨g0, g1, g2⟩, -⟩ := box3s hx2
  have hs := symsame_c s1 s2 x.ss y.ss _ (h1.below hB0).1 (h2.below hB0).1 x1
  unfold dEq
  generalize eqAll symEq Sy.none x.ss y.ss = c1 at *
  replace h1 := hidden h1
  replace h2 := hidden h2
  have hX1 := hidden hx1
  have hX2 := hidden hx2
  have hsz : Hid (((w.alloc (.cells #[s1, n1, a1] 26)).alloc (.cells #[s2, n2, a2] 26)).heap.size = w.heap.size + 2) := by
    show ((w.heap.push _).push _).size = _
    simp
  replace hB0 := hidden hB0
  clear hx1 hx2
  cases c1 with
  | false =>
    go_enter Tryd.func6, Tryd.ntmps6
    go_wp2_with fail
    refine hs.mono ?_
    rintro e w1 ⟨rfl, hB1⟩
    have hBL := hidden (hB0.out.trans (hB1.mono hB0.out.size))
    clear hs hB1 e0 e1 e2 g0 g1 g2
    go_wp2
    go_ret
    exact ⟨by simp, hBL.out⟩
  | true =>
    go_enter Tryd.func6, Tryd.ntmps6
    go_wp2_with fail
    refine hs.mono ?_
    rintro e w1 ⟨rfl, hB1⟩
    have hBL := hidden (hB0.out.trans (hB1.mono hB0.out.size))
    have hX1 := hidden ((hB1.block _ (Array.getElem?_eq_some_iff.1 hX1.out).1).trans hX1.out)
    have hX2 := hidden ((hB1.block _ (Array.getElem?_eq_some_iff.1 hX2.out).1).trans hX2.out)
    clear hs hB1 e0 e1 e2 g0 g1 g2
    obtain ⟨⟨e0, e1, e2⟩, -⟩ := box3s hX1.out
    obtain ⟨⟨g0, g1, g2⟩, -⟩ := box3s hX2.out
    have hs := boolsame_c a1 a2 x.ac y.ac w1 (h1.out.below hBL.out).2.2 (h2.out.below hBL.out).2.2 x2
    obtain ⟨c2, hc2⟩ : ∃ c2, c2 = eqAll (· == ·) false x.ac y.ac := ⟨_, rfl⟩
    rw [← hc2] at hs
    replace hc2 := hidden hc2
    cases c2 with
    | false =>
      go_wp2_with fail
      refine hs.mono ?_
      rintro e w2 ⟨rfl, hB2⟩
      have hBM := hidden (hBL.out.trans (hB2.mono hBL.out.size))
      clear hs hB2 e0 e1 e2 g0 g1 g2
      go_wp2
      go_ret
      exact ⟨by rw [← hc2.out]; simp, hBM.out⟩
    | true =>
      go_wp2_with fail
      refine hs.mono ?_
      rintro e w2 ⟨rfl, hB2⟩
      have hBM := hidden (hBL.out.trans (hB2.mono hBL.out.size))
      have hX1 := hidden ((hB2.block _ (Array.getElem?_eq_some_iff.1 hX1.out).1).trans hX1.out)
      have hX2 := hidden ((hB2.block _ (Array.getElem?_eq_some_iff.1 hX2.out).1).trans hX2.out)
      clear hs hB2 e0 e1 e2 g0 g1 g2
      obtain ⟨⟨e0, e1, e2⟩, -⟩ := box3s hX1.out
      obtain ⟨⟨g0, g1, g2⟩, -⟩ := box3s hX2.out
      have hs := rowsame_c n1 n2 x.ns y.ns w2 (h1.out.below hBM.out).2.1 (h2.out.below hBM.out).2.1 x3 x4 y4
      obtain ⟨c3, hc3⟩ : ∃ c3, c3 = eqAll rowEq [] x.ns y.ns := ⟨_, rfl⟩
      rw [← hc3] at hs
      replace hc3 := hidden hc3
      go_wp2_with fail
      refine hs.mono ?_
      rintro e w3 ⟨rfl, hB3⟩
      have hBN := hidden (hBM.out.trans (hB3.mono hBM.out.size))
      clear hs hB3 e0 e1 e2 g0 g1 g2
      go_wp2
      go_ret
      exact ⟨by rw [← hc2.out, ← hc3.out]; simp, hBN.out⟩
end Go.Proofs.YtfdbedeidcaonabDoor
