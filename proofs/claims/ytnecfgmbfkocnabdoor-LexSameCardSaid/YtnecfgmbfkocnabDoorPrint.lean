/-
  A VALUE PRINTED: the program's function, by contract.
-/
import Derived.Test.YtnecfgmbfkocnabDoorBackMath
import Derived.Test.YtnecfgmbfkocnabDoorRead3
import Derived.Test.YtnecfgmbfkocnabDoorShelf
import Derived.Lib.AppendIntMem
namespace Go.Proofs.YtnecfgmbfkocnabDoor
open Go.ChangeShapes Go.WideShapes Go.ChangeAt Go.RowKit

theorem escL_len : ∀ l, (escL l).length ≤ 2 * l.length
  | [] => Nat.le_refl _
  | u :: l => by
    have := escL_len l
    rw [escL_cons, List.length_append]
    split <;> simp <;> omega
def outL (t : List UInt8) (j : Nat) : List UInt8 := 39 :: escL (t.take j)
theorem outL_len (t : List UInt8) (j : Nat) : (outL t j).length ≤ 2 * j + 1 := by
  unfold outL
  have := escL_len (t.take j)
  have h : (t.take j).length ≤ j := List.length_take_le _ _
  simp; omega
theorem outL_step (s : ByteArray) (j : Nat) (h : j < s.size) : outL s.data.toList (j + 1) = outL s.data.toList j ++ (if isSp (byteAt s j) then [92, ubyte s j] else [ubyte s j]) := by
  have hl : j < s.data.toList.length := by simpa using h
  have e : s.data.toList.take (j + 1) = s.data.toList.take j ++ [ubyte s j] := by
    rw [List.take_add_one, List.getElem?_eq_getElem hl]
    unfold ubyte
    rw [List.getD_eq_getElem?_getD, List.getElem?_eq_getElem hl]; rfl
  unfold outL
  rw [e, escL_snoc, ← byteAt_u]; rfl
theorem outL_end (s : ByteArray) : outL s.data.toList s.size ++ [39] = 39 :: (escL s.data.toList ++ [39]) := by
  unfold outL
  rw [List.take_of_length_le (by simp)]; rfl
set_option maxHeartbeats 3200000 in
theorem print_num (n : Int) (s : ByteArray) (w : World) (h0 : -9223372036854775808 ≤ n) (h1 : n ≤ 9223372036854775807) (hg : goodV 1 n s = true) (hs : s.size ≤ 1000)
    (hT : ∀ x, Below w.heap.size w x → Lib.TabIs Tryd.prog x "internal/strconv.uint64pow10" .u64 Lib.pow10Tab) :
    Calls Tryd.prog 13 #[.agg #[.int .i64 1, .int .i64 n, .string s]] w fun e w' => e = .returned (.tuple #[.string (tx (Lib.itoa n)), .int .i64 0]) ∧ Below w.heap.size w w' := by
  have hgood := fun w => vgood_c 1 n s w hs
  rw [hg] at hgood
  have hX0 := hid0 (heap_alloc_new w (.cells #[.int .i64 1, .int .i64 n, .string s] 29))
  have hs0 : Hid ((w.alloc (.cells #[.int .i64 1, .int .i64 n, .string s] 29)).heap.size = w.heap.size + 1) := by show (w.heap.push _).size = _; simp
  have hB0 : Hid (Below w.heap.size w (w.alloc (.cells #[.int .i64 1, .int .i64 n, .string s] 29))) := (Below.refl _ _).alloc (Nat.le_refl _) _
  replace hT := hid0 hT
  go_enter Tryd.func13, Tryd.ntmps13
  go_wp2_with fail
  refine (hgood _).mono ?_
  rintro e w1 ⟨rfl, hB⟩
  have hX : Hid (w1.heap[w.heap.size]? = some (.cells #[.int .i64 1, .int .i64 n, .string s] 29)) := (hB.block _ (by rw [hs0.out]; omega)).trans hX0.out
  replace hB : Hid (Below w.heap.size w w1) := hB0.out.trans (hB.mono (by rw [hs0.out]; omega))
  obtain ⟨⟨g0, g1, g2⟩, r0, r1, r2⟩ := box_facts hX.out
  have hit := Tryd.strconv_Itoa n h0 h1 w1 (hT.out w1 hB.out)
  clear hgood hX0 hB0 hs0 hX
  go_wp2_with fail
  refine hit.mono ?_
  rintro e w2 ⟨rfl, k, os, rfl⟩
  have hfin : Hid (Below w.heap.size w (Go.Sort.grow (w1.drewN k) os)) := hB.out.trans (Go.Lib.below_grow _ _ hB.out.size k os)
  clear hit hB g0 g1 g2 r0 r1 r2
  generalize Go.Sort.grow (w1.drewN k) os = w3 at *
  go_wp2
  go_ret2
  exact ⟨rfl, hfin.out⟩
set_option maxHeartbeats 3200000 in
theorem print_bad (k n : Int) (s : ByteArray) (w : World) (hg : goodV k n s = false ∨ k = 0) (hs : s.size ≤ 1000) :
    Calls Tryd.prog 13 #[.agg #[.int .i64 k, .int .i64 n, .string s]] w fun e w' => e = .returned (.tuple #[.string ⟨#[]⟩, .int .i64 2]) ∧ Below w.heap.size w w' := by
  have hgood := fun w => vgood_c k n s w hs
  have hX0 := hid0 (heap_alloc_new w (.cells #[.int .i64 k, .int .i64 n, .string s] 29))
  have hs0 : Hid ((w.alloc (.cells #[.int .i64 k, .int .i64 n, .string s] 29)).heap.size = w.heap.size + 1) := by show (w.heap.push _).size = _; simp
  have hB0 : Hid (Below w.heap.size w (w.alloc (.cells #[.int .i64 k, .int .i64 n, .string s] 29))) := (Below.refl _ _).alloc (Nat.le_refl _) _
  cases hgv : goodV k n s with
  | false =>
    rw [hgv] at hgood
    clear hg hgv
    go_enter Tryd.func13, Tryd.ntmps13
    go_wp2_with fail
    refine (hgood _).mono ?_
    rintro e w1 ⟨rfl, hB⟩
    have hX : Hid (w1.heap[w.heap.size]? = some (.cells #[.int .i64 k, .int .i64 n, .string s] 29)) := (hB.block _ (by rw [hs0.out]; omega)).trans hX0.out
    replace hB : Hid (Below w.heap.size w w1) := hB0.out.trans (hB.mono (by rw [hs0.out]; omega))
    obtain ⟨⟨g0, g1, g2⟩, r0, r1, r2⟩ := box_facts hX.out
    clear hgood hX0 hB0 hs0 hX
    go_wp2
    go_ret2
    exact ⟨rfl, hB.out⟩
  | true =>
    rw [hgv] at hgood hg
    have hk : k = 0 := hg.resolve_left (by simp)
    subst hk
    clear hg hgv
    go_enter Tryd.func13, Tryd.ntmps13
    go_wp2_with fail
    refine (hgood _).mono ?_
    rintro e w1 ⟨rfl, hB⟩
    have hX : Hid (w1.heap[w.heap.size]? = some (.cells #[.int .i64 0, .int .i64 n, .string s] 29)) := (hB.block _ (by rw [hs0.out]; omega)).trans hX0.out
    replace hB : Hid (Below w.heap.size w w1) := hB0.out.trans (hB.mono (by rw [hs0.out]; omega))
    obtain ⟨⟨g0, g1, g2⟩, r0, r1, r2⟩ := box_facts hX.out
    clear hgood hX0 hB0 hs0 hX
    go_wp2
    go_ret2
    exact ⟨rfl, hB.out⟩

set_option maxHeartbeats 6400000 in
theorem print_text (n : Int) (s : ByteArray) (w : World) (hg : goodV 2 n s = true) (hs : s.size ≤ 1000) :
    Calls Tryd.prog 13 #[.agg #[.int .i64 2, .int .i64 n, .string s]] w fun e w' => e = .returned (.tuple #[.string (tx (39 :: (escL s.data.toList ++ [39]))), .int .i64 0]) ∧ Below w.heap.size w w' := by
  have hgood := fun w => vgood_c 2 n s w hs
  rw [hg] at hgood
  have hspc := fun b w => special_c b w
  obtain ⟨i0, hi, hz0, hz1, hz2⟩ := info_parts infoU8
  have hX0 := hid0 (heap_alloc_new w (.cells #[.int .i64 2, .int .i64 n, .string s] 29))
  have hs0 : Hid ((w.alloc (.cells #[.int .i64 2, .int .i64 n, .string s] 29)).heap.size = w.heap.size + 1) := by show (w.heap.push _).size = _; simp
  have hB0 : Hid (Below w.heap.size w (w.alloc (.cells #[.int .i64 2, .int .i64 n, .string s] 29))) := (Below.refl _ _).alloc (Nat.le_refl _) _
  have hstep := hid0 (fun j h => outL_step s j h)
  have hend := hid0 (outL_end s)
  have hol := hid0 (fun j => outL_len s.data.toList j)
  rw [← hend.out]
  obtain ⟨oL, hoL⟩ : ∃ oL : Nat → List UInt8, Hid (oL = outL s.data.toList) := ⟨_, (rfl : _ = _)⟩
  rw [← hoL.out] at hstep hol ⊢
  have h00 : Hid (oL 0 = [39]) := by show _ = _; rw [hoL.out]; rfl
  clear hoL hend
  go_enter Tryd.func13, Tryd.ntmps13
  go_wp2_with fail
  refine (hgood _).mono ?_
  rintro e w1 ⟨rfl, hB⟩
  have hX : Hid (w1.heap[w.heap.size]? = some (.cells #[.int .i64 2, .int .i64 n, .string s] 29)) := (hB.block _ (by rw [hs0.out]; omega)).trans hX0.out
  have hsz1 : Hid (w.heap.size + 1 ≤ w1.heap.size) := by have := hB.size; rw [hs0.out] at this; exact this
  replace hB : Hid (Below w.heap.size w w1) := hB0.out.trans (hB.mono (by rw [hs0.out]; omega))
  obtain ⟨⟨g0, g1, g2⟩, r0, r1, r2⟩ := box_facts hX.out
  clear hgood hX0 hB0 hs0
  have hl1 : Hid (w.heap.size < w1.heap.size) := by have := hsz1.out; show _ < _; omega
  have hXa : Hid ((w1.alloc (.cells #[.int .u8 39] 5)).heap[w.heap.size]? = some (.cells #[.int .i64 2, .int .i64 n, .string s] 29)) := (heap_alloc_old _ _ hl1.out).trans hX.out
  have hBa : Hid (Below w.heap.size w (w1.alloc (.cells #[.int .u8 39] 5))) := hB.out.alloc hB.out.size _
  have hsa : Hid (w.heap.size + 1 ≤ (w1.alloc (.cells #[.int .u8 39] 5)).heap.size) := by have := hsz1.out; show _ ≤ (w1.heap.push _).size; simp; omega
  have howna : Hid ((w1.alloc (.cells #[.int .u8 39] 5)).ownsRow (w.heap.size + 1) 5 1 (.slice (some ⟨w1.heap.size, 0, none⟩) 1 1) (oL 0).length ((oL 0).map u8v)) := by
    show World.ownsRow _ _ _ _ _ _ _
    rw [h00.out]
    exact World.ownsRow_lit w1 #[.int .u8 39] 1 hsz1.out (by unfold maxLen; omega) rfl
  obtain ⟨⟨f0, f1, f2⟩, q0, q1, q2⟩ := box_facts hXa.out
  clear hX hB hsz1
  have hlt1 : w.heap.size < w1.heap.size := hl1.out
  go_wp2_with fail
  clear g0 g1 g2 r0 r1 r2 f0 f1 f2 q0 q1 q2
  go_loopw [4, 24] (fun x i wr => ∃ (j : Nat) (a : Option Addr) (c : Nat), x = .slice a (oL j).length c ∧ i = .int .i64 (j : Int) ∧ j ≤ s.size ∧ Hid (wr.ownsRow (w.heap.size + 1) 5 1 (.slice a (oL j).length c) (oL j).length ((oL j).map u8v)) ∧
      Hid (wr.heap[w.heap.size]? = some (.cells #[.int .i64 2, .int .i64 n, .string s] 29)) ∧ Hid (w.heap.size + 1 ≤ wr.heap.size) ∧ Hid (Below w.heap.size w wr)) (fun _ i _ => s.size - (intOf i).toNat)
  case atStart => exact ⟨0, some ⟨w1.heap.size, 0, none⟩, 1, by rw [h00.out]; rfl, rfl, Nat.zero_le _, (by rw [h00.out] at howna ⊢; exact howna), hXa, hsa, hBa⟩
  case round =>
    clear howna hXa hsa hBa hl1 hlt1 h00
    obtain ⟨j, a, c, rfl, rfl, hj, hown, hX, hszw_, hB⟩ := hrel
    obtain ⟨⟨g0, g1, g2⟩, r0, r1, r2⟩ := box_facts hX.out
    have hlen := hol.out j
    by_cases hlt : j < s.size
    · have hj1 : (j : Int) < (s.size : Int) := by omega
      have hbj := byteAt_eq (s := s) (k := j) hlt
      have hbu : Hid (byteAt s j = ((ubyte s j).toNat : Int)) := byteAt_u s j
      have hsp := fun w => hspc (byteAt s j) w
      have hst := hid0 (hstep.out j hlt)
      have hwl : w.heap.size < wr.heap.size := by have := hszw_.out; omega
      generalize byteAt s j = b at *
      generalize hL : (oL j).length = L at *
      replace hL := hid0 hL
      have hL9 : L ≤ 2001 := by omega
      clear hlen
      cases hd : isSp b with
      | false =>
        rw [hd] at hsp hst
        have hst2 : Hid (oL (j + 1) = oL j ++ [ubyte s j]) := hst.out
        clear hst hd
        go_wp2_with fail
        refine (hsp _).mono ?_
        rintro e wr ⟨rfl, rfl⟩
        clear hsp
        have own_a := hown.out
        have sz_a := hszw_.out
        go_wp2_with (at_builtin; refine wpList_append_own _ rfl _ _ 45 rfl (w.heap.size + 1) 5 i0 (.int .u8 0) 1 1 Tryd.underlying45 hi hz0 hz1 hz2 rfl (by decide) _ _ _ rfl (own_a.alloc _) ⟨wr.heap.size, 0, none⟩ 1 1 [.int .u8 b] rfl rfl (cell_one_new _ _ _) ?c2a ?c3a ?c4a ?c5a ?_)
        case c2a => first | rfl | (intro u hu; simp at hu; subst hu; rfl)
        case c3a => unfold maxLen; omega
        case c4a => omega
        case c5a => first | omega | (simp; omega)
        intro v' w3 hown' hgrow _
        have hB3 : Hid (Below w.heap.size w w3) := (hB.out.alloc (by omega) _).grown hgrow (by simp; omega) (fun k hk => by have := (own_a.lt k hk).1; omega)
        obtain ⟨a', c', e'⟩ := own_slice hown'
        subst e'
        have hX3 : Hid (w3.heap[w.heap.size]? = some (.cells #[.int .i64 2, .int .i64 n, .string s] 29)) := by
          refine (hgrow.block _ (by simp; omega) (fun e => ?_)).trans ((heap_alloc_old _ _ (by omega)).trans hX.out)
          have := (own_a.lt _ e.symm).1
          omega
        have hs3 : Hid (w.heap.size + 1 ≤ w3.heap.size) := by have := hgrow.size; simp at this; show _ ≤ _; omega
        have hnx : Hid (w3.ownsRow (w.heap.size + 1) 5 1 (.slice a' (oL (j + 1)).length c') (oL (j + 1)).length ((oL (j + 1)).map u8v)) := by
          show World.ownsRow _ _ _ _ _ _ _
          have e1 : (oL (j + 1)).length = L + 1 := by rw [hst2.out]; simp only [List.length_append, List.length_cons, List.length_nil]; rw [hL.out]
          have e2 : (oL (j + 1)).map u8v = (oL j).map u8v ++ [.int .u8 b] := by rw [hst2.out, hbu.out]; simp [u8v]
          rw [e1, e2]; exact hown'
        have he1 : Hid ((oL (j + 1)).length = L + 1) := by show _ = _; rw [hst2.out]; simp only [List.length_append, List.length_cons, List.length_nil]; rw [hL.out]
        clear own_a hown' hgrow sz_a hown hX hszw_ hB hbu
        obtain ⟨⟨g0, g1, g2⟩, r0, r1, r2⟩ := box_facts hX3.out
        go_wp2
        go_roundw
        case rel => exact ⟨j + 1, a', c', by rw [he1.out], by go_num, by omega, hnx, hX3, hs3, hB3⟩
        case measure => simp [intOf]; omega
      | true =>
        rw [hd] at hsp hst
        have hst2 : Hid (oL (j + 1) = oL j ++ [92] ++ [ubyte s j]) := by show _ = _; rw [List.append_assoc]; exact hst.out
        clear hst hd
        go_wp2_with fail
        refine (hsp _).mono ?_
        rintro e wr ⟨rfl, rfl⟩
        clear hsp
        have own_a := hown.out
        have sz_a := hszw_.out
        go_wp2_with (at_builtin; refine wpList_append_own _ rfl _ _ 45 rfl (w.heap.size + 1) 5 i0 (.int .u8 0) 1 1 Tryd.underlying45 hi hz0 hz1 hz2 rfl (by decide) _ _ _ rfl (own_a.alloc _) ⟨wr.heap.size, 0, none⟩ 1 1 [.int .u8 92] rfl rfl (cell_one_new _ _ _) ?c2a ?c3a ?c4a ?c5a ?_)
        case c2a => first | rfl | (intro u hu; simp at hu; subst hu; rfl)
        case c3a => unfold maxLen; omega
        case c4a => omega
        case c5a => first | omega | (simp; omega)
        intro v' w3 hown' hgrow _
        have hB3 : Hid (Below w.heap.size w w3) := (hB.out.alloc (by omega) _).grown hgrow (by simp; omega) (fun k hk => by have := (own_a.lt k hk).1; omega)
        obtain ⟨a', c', e'⟩ := own_slice hown'
        subst e'
        have hX3 : Hid (w3.heap[w.heap.size]? = some (.cells #[.int .i64 2, .int .i64 n, .string s] 29)) := by
          refine (hgrow.block _ (by simp; omega) (fun e => ?_)).trans ((heap_alloc_old _ _ (by omega)).trans hX.out)
          have := (own_a.lt _ e.symm).1
          omega
        have hs3 : Hid (w.heap.size + 1 ≤ w3.heap.size) := by have := hgrow.size; simp at this; show _ ≤ _; omega
        clear own_a hgrow sz_a hown hX hszw_ hB g0 g1 g2 r0 r1 r2
        obtain ⟨⟨g0, g1, g2⟩, r0, r1, r2⟩ := box_facts hX3.out
        have hwl3 : w.heap.size < w3.heap.size := by have := hs3.out; omega
        have hszw_ := hs3
        have hB := hB3
        have hX := hX3
        have hown := hid0 hown'
        clear hown' hs3 hB3 hX3
        have own_b := hown.out
        have sz_b := hszw_.out
        go_wp2_with (at_builtin; refine wpList_append_own _ rfl _ _ 45 rfl (w.heap.size + 1) 5 i0 (.int .u8 0) 1 1 Tryd.underlying45 hi hz0 hz1 hz2 rfl (by decide) _ _ _ rfl (own_b.alloc _) ⟨w3.heap.size, 0, none⟩ 1 1 [.int .u8 b] rfl rfl (cell_one_new _ _ _) ?c2b ?c3b ?c4b ?c5b ?_)
        case c2b => first | rfl | (intro u hu; simp at hu; subst hu; rfl)
        case c3b => unfold maxLen; omega
        case c4b => omega
        case c5b => first | omega | (simp; omega)
        intro v' w4 hown' hgrow _
        have hB4 : Hid (Below w.heap.size w w4) := (hB.out.alloc (by omega) _).grown hgrow (by simp; omega) (fun k hk => by have := (own_b.lt k hk).1; omega)
        obtain ⟨a2, c2, e2⟩ := own_slice hown'
        subst e2
        have hX4 : Hid (w4.heap[w.heap.size]? = some (.cells #[.int .i64 2, .int .i64 n, .string s] 29)) := by
          refine (hgrow.block _ (by simp; omega) (fun e => ?_)).trans ((heap_alloc_old _ _ (by omega)).trans hX.out)
          have := (own_b.lt _ e.symm).1
          omega
        have hs4 : Hid (w.heap.size + 1 ≤ w4.heap.size) := by have := hgrow.size; simp at this; show _ ≤ _; omega
        have hnx : Hid (w4.ownsRow (w.heap.size + 1) 5 1 (.slice a2 (oL (j + 1)).length c2) (oL (j + 1)).length ((oL (j + 1)).map u8v)) := by
          show World.ownsRow _ _ _ _ _ _ _
          have e1 : (oL (j + 1)).length = L + 1 + 1 := by rw [hst2.out]; simp only [List.length_append, List.length_cons, List.length_nil]; rw [hL.out]
          have e2 : (oL (j + 1)).map u8v = (oL j).map u8v ++ [.int .u8 92, .int .u8 b] := by rw [hst2.out, hbu.out]; simp [u8v]
          rw [e1, e2]; exact hown'
        have he1 : Hid ((oL (j + 1)).length = L + 1 + 1) := by show _ = _; rw [hst2.out]; simp only [List.length_append, List.length_cons, List.length_nil]; rw [hL.out]
        clear own_b hown' hgrow sz_b hown hX hszw_ hB hbu g0 g1 g2 r0 r1 r2
        obtain ⟨⟨g0, g1, g2⟩, r0, r1, r2⟩ := box_facts hX4.out
        go_wp2
        go_roundw
        case rel => exact ⟨j + 1, a2, c2, by rw [he1.out], by go_num, by omega, hnx, hX4, hs4, hB4⟩
        case measure => simp [intOf]; omega
    · have hj1 : ¬ (j : Int) < (s.size : Int) := by omega
      obtain rfl : j = s.size := by omega
      generalize hL : (oL s.size).length = L at *
      replace hL := hid0 hL
      have hL9 : L ≤ 2001 := by omega
      clear hlen hstep hol
      have hwl : w.heap.size < wr.heap.size := by have := hszw_.out; omega
      have own_z := hown.out
      have sz_z := hszw_.out
      go_wp2_with (at_builtin; refine wpList_append_own _ rfl _ _ 45 rfl (w.heap.size + 1) 5 i0 (.int .u8 0) 1 1 Tryd.underlying45 hi hz0 hz1 hz2 rfl (by decide) _ _ _ rfl (own_z.alloc _) ⟨wr.heap.size, 0, none⟩ 1 1 [.int .u8 39] rfl rfl (cell_one_new _ _ _) ?c2z ?c3z ?c4z ?c5z ?_)
      case c2z => first | rfl | (intro u hu; simp at hu; subst hu; rfl)
      case c3z => unfold maxLen; omega
      case c4z => omega
      case c5z => first | omega | (simp; omega)
      intro v' w3 hown' hgrow _
      have hB3 : Hid (Below w.heap.size w w3) := (hB.out.alloc (by omega) _).grown hgrow (by simp; omega) (fun k hk => by have := (own_z.lt k hk).1; omega)
      have hcv := conv_row w3 (w.heap.size + 1) v' (oL s.size ++ [39]) (by
        have e1 : (oL s.size ++ [39]).length = L + 1 := by rw [List.length_append, hL.out]; rfl
        have e2 : (oL s.size ++ [39]).map u8v = (oL s.size).map u8v ++ [.int .u8 39] := by simp [u8v]
        rw [e1, e2]; exact hown')
      clear own_z hown' hgrow sz_z hown hX hszw_ hB g0 g1 g2 r0 r1 r2
      go_wp2
      go_ret2
      exact ⟨rfl, hB3.out⟩
end Go.Proofs.YtnecfgmbfkocnabDoor
