/-
  WHAT IS PRINTED IS READ AGAIN: the law's own walk.
-/
import Derived.Test.YtlpglldfchfaaabDoorRead4
import Derived.Test.YtlpglldfchfaaabDoorCut
import Derived.Test.YtlpglldfchfaaabDoorVFew2
import Derived.Test.YtlpglldfchfaaabDoorBackMath
import Derived.Test.YtlpglldfchfaaabDoorPrint
import Derived.Test.YtlpglldfchfaaabDoorRPrint
import Derived.Test.YtlpglldfchfaaabDoorXCodeG
namespace Go.Proofs.YtlpglldfchfaaabDoor
open Go.ChangeShapes Go.WideShapes Go.ChangeAt Go.RowKit

theorem refdig_c (b : Int) (w : World) : Calls Tryd.prog 10 #[.int .u8 b] w fun e w' => e = .returned (.bool (isDig b)) ∧ w' = w := by
  by_cases h1 : 48 ≤ b <;> by_cases h2 : b ≤ 57 <;> first | (exfalso; omega) | skip
  all_goals
    go_enter Tryd.func10, Tryd.ntmps10
    go_wp2
    go_ret
    exact ⟨ret_bool (by unfold isDig; simp [h1, h2]), rfl⟩
set_option maxHeartbeats 3200000 in
theorem law_bad (k n : Int) (s b0 : ByteArray) (w : World) (hg : goodV k n (cutB s 120) = false ∨ k = 0)
    (hlv : ∀ x, Below w.heap.size w x → Calls Tryd.prog 8 #[] x fun e w' => e = .returned (.bool true) ∧ GoX.Calm x w') :
    Calls Tryd.prog 3 #[.agg #[.int .i64 k, .int .i64 n, .string s], .string b0] w fun e w' => e = .returned (.bool true) ∧ GoX.Calm w w' := by
  have hf := fun w => vfew_c k n s w
  have hc := fun w => cut_c b0 20 w (by omega)
  have hsz := cutB_size s 120
  generalize cutB s 120 = c at *
  generalize cutB b0 20 = b at *
  have hp := fun w => print_bad k n c w hg (by omega)
  have hrg := fun w => rgood_c k n c w (by omega)
  have hA0 := hid0 (heap_alloc_new w (.cells #[.int .i64 k, .int .i64 n, .string s] 23))
  have hs0 : Hid ((w.alloc (.cells #[.int .i64 k, .int .i64 n, .string s] 23)).heap.size = w.heap.size + 1) := by show (w.heap.push _).size = _; simp
  have hB0 : Hid (Below w.heap.size w (w.alloc (.cells #[.int .i64 k, .int .i64 n, .string s] 23))) := (Below.refl _ _).alloc (Nat.le_refl _) _
  replace hlv := hid0 hlv
  have main : ∀ g : Bool, goodV k n c = g → Calls Tryd.prog 3 #[.agg #[.int .i64 k, .int .i64 n, .string s], .string b0] w fun e w' => e = .returned (.bool true) ∧ GoX.Calm w w' := by
    intro g hg2
    rw [hg2] at hg
    simp only [hg2] at hrg
    cases g with
    | false =>
      clear hg hg2 hsz
      go_enter Tryd.func3, Tryd.ntmps3
      go_wp2_with fail
      refine (hf _).mono ?_
      rintro e w1 ⟨rfl, hB1⟩
      have hA1 := (hB1.block _ (by rw [hs0.out]; omega)).trans hA0.out
      obtain ⟨⟨g0, g1, g2⟩, r0, r1, r2⟩ := box_facts hA1
      have hA := hid0 hA1
      have hB : Hid (Below w.heap.size w w1) := hB0.out.trans (hB1.mono hB0.out.size)
      have hlt : w.heap.size < w1.heap.size := by have := hB1.size; rw [hs0.out] at this; omega
      clear hA1 hA0 hs0 hB0 hB1 hf
      go_wp2_with fail
      refine (hc _).mono ?_
      rintro e w1 ⟨rfl, rfl⟩
      clear hc
      go_wp2_with fail
      have hA3 := heap_set3 hA.out (.int .i64 k) (.int .i64 n) (.string c)
      have hB3 : Hid (Below w.heap.size w (((w1.setCell ⟨w.heap.size, 0, none⟩ (.int .i64 k)).setCell ⟨w.heap.size, 1, none⟩ (.int .i64 n)).setCell ⟨w.heap.size, 2, none⟩ (.string c))) := ((hB.out.setCell (Nat.le_refl _) _).setCell (Nat.le_refl _) _).setCell (Nat.le_refl _) _
      clear g0 g1 g2 r0 r1 r2 hA hB hlt
      obtain ⟨w4, hw4⟩ : ∃ w4, w4 = (((w1.setCell ⟨w.heap.size, 0, none⟩ (.int .i64 k)).setCell ⟨w.heap.size, 1, none⟩ (.int .i64 n)).setCell ⟨w.heap.size, 2, none⟩ (.string c)) := ⟨_, rfl⟩
      rw [← hw4] at hA3 hB3 ⊢
      clear hw4
      have hlt : w.heap.size < w4.heap.size := (Array.getElem?_eq_some_iff.1 hA3).1
      obtain ⟨⟨g0, g1, g2⟩, -⟩ := box_facts hA3
      have hA := hid0 hA3
      clear hA3
      refine (hp _).mono ?_
      rintro e w5 ⟨rfl, hB5⟩
      have hA5 := (hB5.block _ hlt).trans hA.out
      replace hB3 : Hid (Below w.heap.size w w5) := hB3.out.trans (hB5.mono (Nat.le_of_lt hlt))
      replace hlt : w.heap.size < w5.heap.size := Nat.lt_of_lt_of_le hlt hB5.size
      clear g0 g1 g2 hA hB5
      obtain ⟨⟨g0, g1, g2⟩, -⟩ := box_facts hA5
      have hA := hid0 hA5
      clear hA5
      clear hp
      go_wp2_with fail
      refine (hrg _).mono ?_
      rintro e w6 ⟨rfl, hB5⟩
      have hA5 := (hB5.block _ hlt).trans hA.out
      replace hB3 : Hid (Below w.heap.size w w6) := hB3.out.trans (hB5.mono (Nat.le_of_lt hlt))
      replace hlt : w.heap.size < w6.heap.size := Nat.lt_of_lt_of_le hlt hB5.size
      clear g0 g1 g2 hA hB5
      obtain ⟨⟨g0, g1, g2⟩, -⟩ := box_facts hA5
      have hA := hid0 hA5
      clear hA5
      clear hrg
      go_wp2_with fail
      refine (hlv.out _ hB3.out).mono ?_
      rintro e w9 ⟨rfl, hC⟩
      have hfin : Hid (GoX.Calm w w9) := (GoX.Calm.of_below hB3.out).trans hC
      clear hC hB3 hA hlt g0 g1 g2
      go_wp2
      go_ret
      exact ⟨rfl, hfin.out⟩
    | true =>
      obtain rfl : k = 0 := hg.resolve_left (by simp)
      clear hg hg2 hsz
      go_enter Tryd.func3, Tryd.ntmps3
      go_wp2_with fail
      refine (hf _).mono ?_
      rintro e w1 ⟨rfl, hB1⟩
      have hA1 := (hB1.block _ (by rw [hs0.out]; omega)).trans hA0.out
      obtain ⟨⟨g0, g1, g2⟩, r0, r1, r2⟩ := box_facts hA1
      have hA := hid0 hA1
      have hB : Hid (Below w.heap.size w w1) := hB0.out.trans (hB1.mono hB0.out.size)
      have hlt : w.heap.size < w1.heap.size := by have := hB1.size; rw [hs0.out] at this; omega
      clear hA1 hA0 hs0 hB0 hB1 hf
      go_wp2_with fail
      refine (hc _).mono ?_
      rintro e w1 ⟨rfl, rfl⟩
      clear hc
      go_wp2_with fail
      have hA3 := heap_set3 hA.out (.int .i64 0) (.int .i64 n) (.string c)
      have hB3 : Hid (Below w.heap.size w (((w1.setCell ⟨w.heap.size, 0, none⟩ (.int .i64 0)).setCell ⟨w.heap.size, 1, none⟩ (.int .i64 n)).setCell ⟨w.heap.size, 2, none⟩ (.string c))) := ((hB.out.setCell (Nat.le_refl _) _).setCell (Nat.le_refl _) _).setCell (Nat.le_refl _) _
      clear g0 g1 g2 r0 r1 r2 hA hB hlt
      obtain ⟨w4, hw4⟩ : ∃ w4, w4 = (((w1.setCell ⟨w.heap.size, 0, none⟩ (.int .i64 0)).setCell ⟨w.heap.size, 1, none⟩ (.int .i64 n)).setCell ⟨w.heap.size, 2, none⟩ (.string c)) := ⟨_, rfl⟩
      rw [← hw4] at hA3 hB3 ⊢
      clear hw4
      have hlt : w.heap.size < w4.heap.size := (Array.getElem?_eq_some_iff.1 hA3).1
      obtain ⟨⟨g0, g1, g2⟩, -⟩ := box_facts hA3
      have hA := hid0 hA3
      clear hA3
      refine (hp _).mono ?_
      rintro e w5 ⟨rfl, hB5⟩
      have hA5 := (hB5.block _ hlt).trans hA.out
      replace hB3 : Hid (Below w.heap.size w w5) := hB3.out.trans (hB5.mono (Nat.le_of_lt hlt))
      replace hlt : w.heap.size < w5.heap.size := Nat.lt_of_lt_of_le hlt hB5.size
      clear g0 g1 g2 hA hB5
      obtain ⟨⟨g0, g1, g2⟩, -⟩ := box_facts hA5
      have hA := hid0 hA5
      clear hA5
      clear hp
      go_wp2_with fail
      refine (hrg _).mono ?_
      rintro e w6 ⟨rfl, hB5⟩
      have hA5 := (hB5.block _ hlt).trans hA.out
      replace hB3 : Hid (Below w.heap.size w w6) := hB3.out.trans (hB5.mono (Nat.le_of_lt hlt))
      replace hlt : w.heap.size < w6.heap.size := Nat.lt_of_lt_of_le hlt hB5.size
      clear g0 g1 g2 hA hB5
      obtain ⟨⟨g0, g1, g2⟩, -⟩ := box_facts hA5
      have hA := hid0 hA5
      clear hA5
      clear hrg
      go_wp2_with fail
      refine (hlv.out _ hB3.out).mono ?_
      rintro e w9 ⟨rfl, hC⟩
      have hfin : Hid (GoX.Calm w w9) := (GoX.Calm.of_below hB3.out).trans hC
      clear hC hB3 hA hlt g0 g1 g2
      go_wp2
      go_ret
      exact ⟨rfl, hfin.out⟩
  exact main _ rfl
end Go.Proofs.YtlpglldfchfaaabDoor
/-
  A GOOD VALUE PRINTED: what is printed, and that it is read again.
-/
namespace Go.Proofs.YtlpglldfchfaaabDoor
open Go.ChangeShapes Go.WideShapes Go.ChangeAt Go.RowKit

theorem empty_is {c : ByteArray} (h : emptyB c = true) : c = ⟨#[]⟩ := by
  unfold emptyB at h
  rw [Go.ByteArray.toList_eq] at h
  have h2 : c.data.toList = [] := by simpa using h
  apply ByteArray.ext
  apply Array.ext'
  rw [h2]
theorem itoa_len (n : Int) (h0 : -1000000000000 ≤ n) (h1 : n ≤ 1000000000000) : (Lib.itoa n).length ≤ 21 := by
  unfold Lib.itoa
  split
  · have := dec_len20 n.natAbs (by omega)
    simp; omega
  · have := dec_len20 n.toNat (by omega)
    omega
theorem plain_all {c : ByteArray} (h : plainS c) : ∀ u ∈ c.data.toList, plainB ((u.toNat : Nat) : Int) = true := by
  intro u hu
  obtain ⟨i, hi, rfl⟩ := List.getElem_of_mem hu
  have h2 := h i (by simpa using hi)
  unfold byteAt at h2
  rwa [List.getD_eq_getElem?_getD, List.getElem?_eq_getElem hi] at h2
theorem tx_self (c : ByteArray) : tx c.data.toList = c := by
  apply ByteArray.ext
  simp [tx]
theorem good_print (k n : Int) (c : ByteArray) (hg : goodV k n c = true) (hk : k ≠ 0) (hc : c.size ≤ 1000) :
    ∃ L : List UInt8, L.length ≤ 300 ∧
      (∀ w, (∀ x, Below w.heap.size w x → Lib.TabIs Tryd.prog x "internal/strconv.uint64pow10" .u64 Lib.pow10Tab) → Calls Tryd.prog 6 #[.agg #[.int .i64 k, .int .i64 n, .string c]] w fun e w' => e = .returned (.tuple #[.string (tx L), .int .i64 0]) ∧ Below w.heap.size w w') ∧
      (∀ w, Calls Tryd.prog 9 #[.agg #[.int .i64 k, .int .i64 n, .string c]] w fun e w' => e = .returned (.string (tx L)) ∧ Below w.heap.size w w') ∧
      (∀ rest, (∀ u r, rest = u :: r → ¬ isD u) → readS (tx (L ++ rest)) = ⟨k, n, c.data.toList, L.length, 0⟩) := by
  by_cases h1 : k = 1
  · subst h1
    have hg2 := hg
    unfold goodV at hg2
    rw [if_neg (by decide), if_pos rfl] at hg2
    simp only [Bool.and_eq_true, decide_eq_true_eq] at hg2
    obtain ⟨⟨a1, a2⟩, a3⟩ := hg2
    obtain rfl := empty_is a3
    refine ⟨Lib.itoa n, by have := itoa_len n a1 a2; omega, fun w hT => print_num n _ w (by omega) (by omega) hg hc hT, fun w => rprint_num n _ w a1 a2, fun rest hr => back_num n rest a1 a2 hr⟩
  · have hg2 := hg
    unfold goodV at hg2
    rw [if_neg hk, if_neg h1] at hg2
    by_cases h2 : k = 2
    · subst h2
      rw [if_pos rfl] at hg2
      simp only [Bool.and_eq_true, beq_iff_eq, decide_eq_true_eq] at hg2
      obtain ⟨rfl, a2, a3⟩ := hg2
      have hl : c.data.toList.length ≤ 100 := by simpa using a2
      refine ⟨39 :: (escL c.data.toList ++ [39]), ?_, fun w _ => print_text 0 c w hg hc, fun w => rprint_text 0 c w hc, fun rest _ => back_text c.data.toList rest (plain_all a3) hl⟩
      have := escL_len c.data.toList
      simp; omega
    · rw [if_neg h2] at hg2; cases hg2
end Go.Proofs.YtlpglldfchfaaabDoor
/-
  WHAT IS PRINTED IS READ AGAIN: the walk, at a good value.
-/
namespace Go.Proofs.YtlpglldfchfaaabDoor
open Go.ChangeShapes Go.WideShapes Go.ChangeAt Go.RowKit

set_option maxHeartbeats 6400000 in
theorem law_good (k n : Int) (s b0 : ByteArray) (w : World) (hg : goodV k n (cutB s 120) = true) (hk : k ≠ 0)
    (hT : ∀ x, Below w.heap.size w x → Lib.TabIs Tryd.prog x "internal/strconv.uint64pow10" .u64 Lib.pow10Tab)
    (hlv : ∀ x, Below w.heap.size w x → Calls Tryd.prog 8 #[] x fun e w' => e = .returned (.bool true) ∧ GoX.Calm x w') :
    Calls Tryd.prog 3 #[.agg #[.int .i64 k, .int .i64 n, .string s], .string b0] w fun e w' => e = .returned (.bool true) ∧ GoX.Calm w w' := by
  have hf := fun w => vfew_c k n s w
  have hc := fun w => cut_c b0 20 w (by omega)
  have hsz := cutB_size s 120
  have hsb := cutB_size b0 20
  generalize cutB s 120 = c at *
  generalize cutB b0 20 = b at *
  obtain ⟨L, hL, hp, hrp, hback⟩ := good_print k n c hg hk (by omega)
  have hrg := fun w => rgood_c k n c w (by omega)
  simp only [hg] at hrg
  have hk0 : (k == 0) = false := by simp [hk]
  have hPb : Hid (tx L ++ b = tx (L ++ b.data.toList)) := by show _ = _; rw [← tx_app, tx_self]
  have hPs : Hid ((tx L).size = L.length) := tx_size L
  have hcx : Hid (tx c.data.toList = c) := tx_self c
  have hbl : Hid (b.data.toList.length = b.size) := by show _ = _; simp
  have hadd : ¬ 9223372036854775807 < (tx L).size + b.size := by rw [hPs.out]; omega
  have hrd : (∀ u r, b.data.toList = u :: r → ¬ isD u) → ∀ w, Calls Tryd.prog 11 #[.string (tx L ++ b)] w fun e w' => e = .returned (.tuple #[.agg #[.int .i64 k, .int .i64 n, .string c], .int .i64 (L.length : Int), .int .i64 0]) ∧ Below w.heap.size w w' := by
    intro hr w
    have h := read_c (tx L ++ b) w (by rw [hPb.out, tx_size]; simp; omega)
    rw [hPb.out, hback _ hr] at h
    simp only [RR.v, hcx.out] at h
    rwa [hPb.out]
  have hlen : ((tx L).size : Int) = (L.length : Int) := by rw [hPs.out]
  have hlenb : (tx L).size = L.length := hPs.out
  clear hPb hcx hbl hback hg hk hL hPs
  replace hrd := hid0 hrd
  generalize tx L = P at *
  generalize L.length = m at *
  have hdig := fun x w => refdig_c x w
  have hA0 := hid0 (heap_alloc_new w (.cells #[.int .i64 k, .int .i64 n, .string s] 23))
  have hs0 : Hid ((w.alloc (.cells #[.int .i64 k, .int .i64 n, .string s] 23)).heap.size = w.heap.size + 1) := by show (w.heap.push _).size = _; simp
  have hB0 : Hid (Below w.heap.size w (w.alloc (.cells #[.int .i64 k, .int .i64 n, .string s] 23))) := (Below.refl _ _).alloc (Nat.le_refl _) _
  replace hlv := hid0 hlv
  replace hT := hid0 hT
  replace hp := hid0 hp
  cases hE : (b.toList == ([] : List UInt8)) with
  | true =>
    obtain rfl := empty_is hE
    have hrd2 := hrd.out (fun u r h => by cases h)
    clear hrd hdig
    go_enter Tryd.func3, Tryd.ntmps3
    go_wp2_with fail
    refine (hf _).mono ?_
    rintro e w1 ⟨rfl, hB1⟩
    have hA1 := (hB1.block _ (by rw [hs0.out]; omega)).trans hA0.out
    obtain ⟨⟨g0, g1, g2⟩, r0, r1, r2⟩ := box_facts hA1
    have hA := hid0 hA1
    have hB : Hid (Below w.heap.size w w1) := hB0.out.trans (hB1.mono hB0.out.size)
    have hlt : w.heap.size < w1.heap.size := by have := hB1.size; rw [hs0.out] at this; omega
    clear hA1 hA0 hs0 hB0 hB1 hf
    go_wp2_with fail
    refine (hc _).mono ?_
    rintro e w1 ⟨rfl, rfl⟩
    clear hc
    go_wp2_with fail
    have hA3 := heap_set3 hA.out (.int .i64 k) (.int .i64 n) (.string c)
    have hB3 : Hid (Below w.heap.size w (((w1.setCell ⟨w.heap.size, 0, none⟩ (.int .i64 k)).setCell ⟨w.heap.size, 1, none⟩ (.int .i64 n)).setCell ⟨w.heap.size, 2, none⟩ (.string c))) := ((hB.out.setCell (Nat.le_refl _) _).setCell (Nat.le_refl _) _).setCell (Nat.le_refl _) _
    clear g0 g1 g2 r0 r1 r2 hA hB hlt
    obtain ⟨w4, hw4⟩ : ∃ w4, w4 = (((w1.setCell ⟨w.heap.size, 0, none⟩ (.int .i64 k)).setCell ⟨w.heap.size, 1, none⟩ (.int .i64 n)).setCell ⟨w.heap.size, 2, none⟩ (.string c)) := ⟨_, rfl⟩
    rw [← hw4] at hA3 hB3 ⊢
    clear hw4
    have hlt : w.heap.size < w4.heap.size := (Array.getElem?_eq_some_iff.1 hA3).1
    obtain ⟨⟨g0, g1, g2⟩, -⟩ := box_facts hA3
    have hA := hid0 hA3
    clear hA3
    have hp4 := hp.out w4 (fun x hx => hT.out x (hB3.out.trans (hx.mono (Nat.le_of_lt hlt))))
    clear hp hT
    refine (hp4).mono ?_
    rintro e w5 ⟨rfl, hB5⟩
    have hA5 := (hB5.block _ hlt).trans hA.out
    replace hB3 : Hid (Below w.heap.size w w5) := hB3.out.trans (hB5.mono (Nat.le_of_lt hlt))
    replace hlt : w.heap.size < w5.heap.size := Nat.lt_of_lt_of_le hlt hB5.size
    clear g0 g1 g2 hA hB5
    obtain ⟨⟨g0, g1, g2⟩, -⟩ := box_facts hA5
    have hA := hid0 hA5
    clear hA5
    clear hp4
    go_wp2_with fail
    refine (hrg _).mono ?_
    rintro e w6 ⟨rfl, hB5⟩
    have hA5 := (hB5.block _ hlt).trans hA.out
    replace hB3 : Hid (Below w.heap.size w w6) := hB3.out.trans (hB5.mono (Nat.le_of_lt hlt))
    replace hlt : w.heap.size < w6.heap.size := Nat.lt_of_lt_of_le hlt hB5.size
    clear g0 g1 g2 hA hB5
    obtain ⟨⟨g0, g1, g2⟩, -⟩ := box_facts hA5
    have hA := hid0 hA5
    clear hA5
    clear hrg
    go_wp2_with fail
    refine (hrp _).mono ?_
    rintro e w7 ⟨rfl, hB5⟩
    have hA5 := (hB5.block _ hlt).trans hA.out
    replace hB3 : Hid (Below w.heap.size w w7) := hB3.out.trans (hB5.mono (Nat.le_of_lt hlt))
    replace hlt : w.heap.size < w7.heap.size := Nat.lt_of_lt_of_le hlt hB5.size
    clear g0 g1 g2 hA hB5
    obtain ⟨⟨g0, g1, g2⟩, -⟩ := box_facts hA5
    have hA := hid0 hA5
    clear hA5
    clear hrp
    go_wp2_with fail
    refine (hrd2 _).mono ?_
    rintro e w8 ⟨rfl, hB5⟩
    have hA5 := (hB5.block _ hlt).trans hA.out
    replace hB3 : Hid (Below w.heap.size w w8) := hB3.out.trans (hB5.mono (Nat.le_of_lt hlt))
    replace hlt : w.heap.size < w8.heap.size := Nat.lt_of_lt_of_le hlt hB5.size
    clear g0 g1 g2 hA hB5
    obtain ⟨⟨g0, g1, g2⟩, -⟩ := box_facts hA5
    have hA := hid0 hA5
    clear hA5
    clear hrd2
    go_wp2_with fail
    replace hB3 : Hid (Below w.heap.size w (w8.alloc (.cells #[.int .i64 k, .int .i64 n, .string c] 23))) := hB3.out.alloc hB3.out.size _
    clear g0 g1 g2 hA hlt
    refine (hlv.out _ hB3.out).mono ?_
    rintro e w9 ⟨rfl, hC⟩
    have hfin : Hid (GoX.Calm w w9) := (GoX.Calm.of_below hB3.out).trans hC
    clear hC hB3
    go_wp2
    go_ret
    exact ⟨rfl, hfin.out⟩
  | false =>
    have h0 : 0 < b.size := by
      rcases Nat.eq_zero_or_pos b.size with h | h
      · exfalso
        obtain rfl : b = ⟨#[]⟩ := by
          apply ByteArray.ext
          exact Array.eq_empty_of_size_eq_zero h
        rw [Go.ByteArray.toList_eq] at hE
        simp at hE
      · exact h
    have h01 : (0 : Int) < (b.size : Int) := by omega
    have hb0 := byteAt_eq (s := b) (k := 0) h0
    have hdd := fun w => hdig (byteAt b 0) w
    have hnd : isDig (byteAt b 0) = false → ∀ u r, b.data.toList = u :: r → ¬ isD u := by
      intro h u r hur
      unfold byteAt at h
      rw [hur] at h
      unfold isD
      simpa using h
    cases hd : isDig (byteAt b 0) with
    | true =>
      rw [hd] at hdd
      clear hrd hdig hnd hd
      generalize byteAt b 0 = x at *
      go_enter Tryd.func3, Tryd.ntmps3
      go_wp2_with fail
      refine (hf _).mono ?_
      rintro e w1 ⟨rfl, hB1⟩
      have hA1 := (hB1.block _ (by rw [hs0.out]; omega)).trans hA0.out
      obtain ⟨⟨g0, g1, g2⟩, r0, r1, r2⟩ := box_facts hA1
      have hA := hid0 hA1
      have hB : Hid (Below w.heap.size w w1) := hB0.out.trans (hB1.mono hB0.out.size)
      have hlt : w.heap.size < w1.heap.size := by have := hB1.size; rw [hs0.out] at this; omega
      clear hA1 hA0 hs0 hB0 hB1 hf
      go_wp2_with fail
      refine (hc _).mono ?_
      rintro e w1 ⟨rfl, rfl⟩
      clear hc
      go_wp2_with fail
      have hA3 := heap_set3 hA.out (.int .i64 k) (.int .i64 n) (.string c)
      have hB3 : Hid (Below w.heap.size w (((w1.setCell ⟨w.heap.size, 0, none⟩ (.int .i64 k)).setCell ⟨w.heap.size, 1, none⟩ (.int .i64 n)).setCell ⟨w.heap.size, 2, none⟩ (.string c))) := ((hB.out.setCell (Nat.le_refl _) _).setCell (Nat.le_refl _) _).setCell (Nat.le_refl _) _
      clear g0 g1 g2 r0 r1 r2 hA hB hlt
      obtain ⟨w4, hw4⟩ : ∃ w4, w4 = (((w1.setCell ⟨w.heap.size, 0, none⟩ (.int .i64 k)).setCell ⟨w.heap.size, 1, none⟩ (.int .i64 n)).setCell ⟨w.heap.size, 2, none⟩ (.string c)) := ⟨_, rfl⟩
      rw [← hw4] at hA3 hB3 ⊢
      clear hw4
      have hlt : w.heap.size < w4.heap.size := (Array.getElem?_eq_some_iff.1 hA3).1
      obtain ⟨⟨g0, g1, g2⟩, -⟩ := box_facts hA3
      have hA := hid0 hA3
      clear hA3
      have hp4 := hp.out w4 (fun x hx => hT.out x (hB3.out.trans (hx.mono (Nat.le_of_lt hlt))))
      clear hp hT
      refine (hp4).mono ?_
      rintro e w5 ⟨rfl, hB5⟩
      have hA5 := (hB5.block _ hlt).trans hA.out
      replace hB3 : Hid (Below w.heap.size w w5) := hB3.out.trans (hB5.mono (Nat.le_of_lt hlt))
      replace hlt : w.heap.size < w5.heap.size := Nat.lt_of_lt_of_le hlt hB5.size
      clear g0 g1 g2 hA hB5
      obtain ⟨⟨g0, g1, g2⟩, -⟩ := box_facts hA5
      have hA := hid0 hA5
      clear hA5
      clear hp4
      go_wp2_with fail
      refine (hrg _).mono ?_
      rintro e w6 ⟨rfl, hB5⟩
      have hA5 := (hB5.block _ hlt).trans hA.out
      replace hB3 : Hid (Below w.heap.size w w6) := hB3.out.trans (hB5.mono (Nat.le_of_lt hlt))
      replace hlt : w.heap.size < w6.heap.size := Nat.lt_of_lt_of_le hlt hB5.size
      clear g0 g1 g2 hA hB5
      obtain ⟨⟨g0, g1, g2⟩, -⟩ := box_facts hA5
      have hA := hid0 hA5
      clear hA5
      clear hrg
      go_wp2_with fail
      refine (hrp _).mono ?_
      rintro e w7 ⟨rfl, hB5⟩
      have hA5 := (hB5.block _ hlt).trans hA.out
      replace hB3 : Hid (Below w.heap.size w w7) := hB3.out.trans (hB5.mono (Nat.le_of_lt hlt))
      replace hlt : w.heap.size < w7.heap.size := Nat.lt_of_lt_of_le hlt hB5.size
      clear g0 g1 g2 hA hB5
      obtain ⟨⟨g0, g1, g2⟩, -⟩ := box_facts hA5
      have hA := hid0 hA5
      clear hA5
      clear hrp
      go_wp2_with fail
      refine (hdd _).mono ?_
      rintro e w7 ⟨rfl, rfl⟩
      clear hdd
      go_wp2_with fail
      refine (hlv.out _ hB3.out).mono ?_
      rintro e w9 ⟨rfl, hC⟩
      have hfin : Hid (GoX.Calm w w9) := (GoX.Calm.of_below hB3.out).trans hC
      clear hC hB3 hA hlt g0 g1 g2
      go_wp2
      go_ret
      exact ⟨rfl, hfin.out⟩
    | false =>
      rw [hd] at hdd
      have hrd2 := hrd.out (hnd hd)
      clear hrd hdig hnd hd
      generalize byteAt b 0 = x at *
      go_enter Tryd.func3, Tryd.ntmps3
      go_wp2_with fail
      refine (hf _).mono ?_
      rintro e w1 ⟨rfl, hB1⟩
      have hA1 := (hB1.block _ (by rw [hs0.out]; omega)).trans hA0.out
      obtain ⟨⟨g0, g1, g2⟩, r0, r1, r2⟩ := box_facts hA1
      have hA := hid0 hA1
      have hB : Hid (Below w.heap.size w w1) := hB0.out.trans (hB1.mono hB0.out.size)
      have hlt : w.heap.size < w1.heap.size := by have := hB1.size; rw [hs0.out] at this; omega
      clear hA1 hA0 hs0 hB0 hB1 hf
      go_wp2_with fail
      refine (hc _).mono ?_
      rintro e w1 ⟨rfl, rfl⟩
      clear hc
      go_wp2_with fail
      have hA3 := heap_set3 hA.out (.int .i64 k) (.int .i64 n) (.string c)
      have hB3 : Hid (Below w.heap.size w (((w1.setCell ⟨w.heap.size, 0, none⟩ (.int .i64 k)).setCell ⟨w.heap.size, 1, none⟩ (.int .i64 n)).setCell ⟨w.heap.size, 2, none⟩ (.string c))) := ((hB.out.setCell (Nat.le_refl _) _).setCell (Nat.le_refl _) _).setCell (Nat.le_refl _) _
      clear g0 g1 g2 r0 r1 r2 hA hB hlt
      obtain ⟨w4, hw4⟩ : ∃ w4, w4 = (((w1.setCell ⟨w.heap.size, 0, none⟩ (.int .i64 k)).setCell ⟨w.heap.size, 1, none⟩ (.int .i64 n)).setCell ⟨w.heap.size, 2, none⟩ (.string c)) := ⟨_, rfl⟩
      rw [← hw4] at hA3 hB3 ⊢
      clear hw4
      have hlt : w.heap.size < w4.heap.size := (Array.getElem?_eq_some_iff.1 hA3).1
      obtain ⟨⟨g0, g1, g2⟩, -⟩ := box_facts hA3
      have hA := hid0 hA3
      clear hA3
      have hp4 := hp.out w4 (fun x hx => hT.out x (hB3.out.trans (hx.mono (Nat.le_of_lt hlt))))
      clear hp hT
      refine (hp4).mono ?_
      rintro e w5 ⟨rfl, hB5⟩
      have hA5 := (hB5.block _ hlt).trans hA.out
      replace hB3 : Hid (Below w.heap.size w w5) := hB3.out.trans (hB5.mono (Nat.le_of_lt hlt))
      replace hlt : w.heap.size < w5.heap.size := Nat.lt_of_lt_of_le hlt hB5.size
      clear g0 g1 g2 hA hB5
      obtain ⟨⟨g0, g1, g2⟩, -⟩ := box_facts hA5
      have hA := hid0 hA5
      clear hA5
      clear hp4
      go_wp2_with fail
      refine (hrg _).mono ?_
      rintro e w6 ⟨rfl, hB5⟩
      have hA5 := (hB5.block _ hlt).trans hA.out
      replace hB3 : Hid (Below w.heap.size w w6) := hB3.out.trans (hB5.mono (Nat.le_of_lt hlt))
      replace hlt : w.heap.size < w6.heap.size := Nat.lt_of_lt_of_le hlt hB5.size
      clear g0 g1 g2 hA hB5
      obtain ⟨⟨g0, g1, g2⟩, -⟩ := box_facts hA5
      have hA := hid0 hA5
      clear hA5
      clear hrg
      go_wp2_with fail
      refine (hrp _).mono ?_
      rintro e w7 ⟨rfl, hB5⟩
      have hA5 := (hB5.block _ hlt).trans hA.out
      replace hB3 : Hid (Below w.heap.size w w7) := hB3.out.trans (hB5.mono (Nat.le_of_lt hlt))
      replace hlt : w.heap.size < w7.heap.size := Nat.lt_of_lt_of_le hlt hB5.size
      clear g0 g1 g2 hA hB5
      obtain ⟨⟨g0, g1, g2⟩, -⟩ := box_facts hA5
      have hA := hid0 hA5
      clear hA5
      clear hrp
      go_wp2_with fail
      refine (hdd _).mono ?_
      rintro e w7 ⟨rfl, rfl⟩
      clear hdd
      go_wp2_with fail
      refine (hrd2 _).mono ?_
      rintro e w8 ⟨rfl, hB5⟩
      have hA5 := (hB5.block _ hlt).trans hA.out
      replace hB3 : Hid (Below w.heap.size w w8) := hB3.out.trans (hB5.mono (Nat.le_of_lt hlt))
      replace hlt : w.heap.size < w8.heap.size := Nat.lt_of_lt_of_le hlt hB5.size
      clear g0 g1 g2 hA hB5
      obtain ⟨⟨g0, g1, g2⟩, -⟩ := box_facts hA5
      have hA := hid0 hA5
      clear hA5
      clear hrd2
      go_wp2_with fail
      replace hB3 : Hid (Below w.heap.size w (w8.alloc (.cells #[.int .i64 k, .int .i64 n, .string c] 23))) := hB3.out.alloc hB3.out.size _
      clear g0 g1 g2 hA hlt
      refine (hlv.out _ hB3.out).mono ?_
      rintro e w9 ⟨rfl, hC⟩
      have hfin : Hid (GoX.Calm w w9) := (GoX.Calm.of_below hB3.out).trans hC
      clear hC hB3
      go_wp2
      go_ret
      exact ⟨rfl, hfin.out⟩
end Go.Proofs.YtlpglldfchfaaabDoor
