/-
  WHAT IS PRINTED IS READ AGAIN. Mathematics alone.
-/
import Derived.Test.YtddmdieeljjamaaDoorReadMath
import Derived.Lib.ItoaNum
import Derived.Test.YtddmdieeljjamaaDoorRead4
import Derived.Test.YtddmdieeljjamaaDoorShelf
import Derived.Lib.AppendIntMem
namespace Go.Proofs.YtddmdieeljjamaaDoor
open Go.ChangeShapes Go.WideShapes Go.ChangeAt Go.RowKit

def escL (l : List UInt8) : List UInt8 := l.flatMap fun u => if isSp ((u.toNat : Nat) : Int) then [92, u] else [u]
theorem escL_nil : escL [] = [] := rfl
theorem escL_cons (u : UInt8) (l : List UInt8) : escL (u :: l) = (if isSp ((u.toNat : Nat) : Int) then [92, u] else [u]) ++ escL l := by simp [escL]
theorem escL_snoc (l : List UInt8) (u : UInt8) : escL (l ++ [u]) = escL l ++ (if isSp ((u.toNat : Nat) : Int) then [92, u] else [u]) := by simp [escL]
def printL (k n : Int) (t : List UInt8) : List UInt8 := if k = 1 then Lib.itoa n else 39 :: (escL t ++ [39])
theorem byte_mid (pre : List UInt8) (x : UInt8) (post : List UInt8) : byteAt (tx (pre ++ x :: post)) pre.length = ((x.toNat : Nat) : Int) ∧ ubyte (tx (pre ++ x :: post)) pre.length = x := by
  have h : (pre ++ x :: post).getD pre.length 0 = x := by simp [List.getD]
  constructor
  · rw [tx_byte, h]
  · unfold ubyte tx; simp
theorem text_run (rest : List UInt8) : ∀ (t : List UInt8) (L pre out : List UInt8) (f : Nat), L = pre ++ (escL t ++ 39 :: rest) → (∀ u ∈ t, plainB ((u.toNat : Nat) : Int) = true) → out.length + t.length ≤ 100 → L.length ≤ pre.length + f →
    textS (tx L) f pre.length out = ⟨2, 0, out ++ t, pre.length + (escL t).length + 1, 0⟩
  | [], L, pre, out, f, hL, _, _, hf => by
    rw [escL_nil, List.nil_append] at hL
    have hb := byte_mid pre 39 rest
    rw [← hL] at hb
    have hlt : pre.length < (tx L).size := by rw [tx_size, hL]; simp
    obtain ⟨g, rfl⟩ : ∃ g, f = g + 1 := ⟨f - 1, by rw [tx_size] at hlt; omega⟩
    rw [textS, if_pos hlt, if_pos (by rw [hb.1]; rfl)]
    simp [escL_nil]
  | u :: t, L, pre, out, f, hL, hp, ho, hf => by
    have hpu := hp u (by simp)
    have hpt : ∀ x ∈ t, plainB ((x.toNat : Nat) : Int) = true := fun x hx => hp x (by simp [hx])
    rw [List.length_cons] at ho
    rw [escL_cons] at hL ⊢
    by_cases hs : isSp ((u.toNat : Nat) : Int) = true
    · rw [if_pos hs] at hL ⊢
      have hL1 : L = pre ++ 92 :: (u :: (escL t ++ 39 :: rest)) := by rw [hL]; simp
      have hL2 : L = (pre ++ [92]) ++ u :: (escL t ++ 39 :: rest) := by rw [hL]; simp
      have hL3 : L = (pre ++ [92, u]) ++ (escL t ++ 39 :: rest) := by rw [hL]; simp
      have hb := byte_mid pre 92 (u :: (escL t ++ 39 :: rest))
      rw [← hL1] at hb
      have hb2 := byte_mid (pre ++ [92]) u (escL t ++ 39 :: rest)
      rw [← hL2] at hb2
      have e1 : (pre ++ [92]).length = pre.length + 1 := by simp
      have e2 : (pre ++ [92, u]).length = pre.length + 2 := by simp
      rw [e1] at hb2
      have hlen : L.length = pre.length + (escL t).length + rest.length + 3 := by rw [hL1]; simp; omega
      have hlt : pre.length < (tx L).size := by rw [tx_size]; omega
      have hlt2 : pre.length + 1 < (tx L).size := by rw [tx_size]; omega
      obtain ⟨g, rfl⟩ : ∃ g, f = g + 1 := ⟨f - 1, by omega⟩
      have ih := text_run rest t L (pre ++ [92, u]) (out ++ [u]) g hL3 hpt (by simp; omega) (by rw [e2]; omega)
      rw [e2] at ih
      have h92 : ¬ byteAt (tx L) pre.length = 39 := by rw [hb.1]; decide
      have h92' : byteAt (tx L) pre.length = 92 := by rw [hb.1]; rfl
      have hsp : isSp (byteAt (tx L) (pre.length + 1)) = true := by rw [hb2.1]; exact hs
      rw [textS, if_pos hlt, if_neg h92, if_pos h92', if_pos hlt2, if_pos hsp, if_neg (by omega), hb2.2, ih]
      simp only [RR.mk.injEq, true_and, List.append_assoc, List.singleton_append, List.length_append, List.length_cons, List.length_nil, and_true]
      omega
    · have hs2 : isSp ((u.toNat : Nat) : Int) = false := by simpa using hs
      rw [if_neg hs] at hL ⊢
      have hL1 : L = pre ++ u :: (escL t ++ 39 :: rest) := by rw [hL]; simp
      have hL3 : L = (pre ++ [u]) ++ (escL t ++ 39 :: rest) := by rw [hL]; simp
      have hb := byte_mid pre u (escL t ++ 39 :: rest)
      rw [← hL1] at hb
      have e2 : (pre ++ [u]).length = pre.length + 1 := by simp
      have hlen : L.length = pre.length + (escL t).length + rest.length + 2 := by rw [hL1]; simp; omega
      have hlt : pre.length < (tx L).size := by rw [tx_size]; omega
      obtain ⟨g, rfl⟩ : ∃ g, f = g + 1 := ⟨f - 1, by omega⟩
      have ih := text_run rest t L (pre ++ [u]) (out ++ [u]) g hL3 hpt (by simp; omega) (by rw [e2]; omega)
      rw [e2] at ih
      have hn : ((u.toNat : Nat) : Int) ≠ 39 ∧ ((u.toNat : Nat) : Int) ≠ 92 := by unfold isSp at hs2; simpa using hs2
      rw [textS, if_pos hlt, if_neg (by rw [hb.1]; exact hn.1), if_neg (by rw [hb.1]; exact hn.2), if_pos (by rw [hb.1]; exact hpu), if_neg (by omega), hb.2, ih]
      simp only [RR.mk.injEq, true_and, List.append_assoc, List.singleton_append, List.length_cons, and_true]
      omega
/-- A text comes back. -/
theorem back_text (t rest : List UInt8) (hp : ∀ u ∈ t, plainB ((u.toNat : Nat) : Int) = true) (hl : t.length ≤ 100) : readS (tx (39 :: (escL t ++ [39]) ++ rest)) = ⟨2, 0, t, (39 :: (escL t ++ [39])).length, 0⟩ := by
  have hL : 39 :: (escL t ++ [39]) ++ rest = [39] ++ (escL t ++ 39 :: rest) := by simp
  have hb := byte_mid [] 39 (escL t ++ 39 :: rest)
  rw [hL]
  have hb0 : byteAt (tx ([39] ++ (escL t ++ 39 :: rest))) 0 = 39 := hb.1
  have hsz : (tx ([39] ++ (escL t ++ 39 :: rest))).size ≠ 0 := by rw [tx_size]; simp
  have hr := text_run rest t ([39] ++ (escL t ++ 39 :: rest)) [39] [] (tx ([39] ++ (escL t ++ 39 :: rest))).size rfl hp (by simpa using hl) (by rw [tx_size]; omega)
  unfold readS
  rw [if_neg (by rw [hb0]; rintro (h | ⟨_, h⟩); exact hsz h; cases h), if_pos hb0]
  refine hr.trans ?_
  simp; omega
/-! ### Numbers -/
def isD (u : UInt8) : Prop := isDig ((u.toNat : Nat) : Int) = true
def foldD (a : Nat) (l : List UInt8) : Nat := l.foldl (fun a u => 10 * a + (u.toNat - 48)) a
theorem foldD_ge : ∀ l a, a ≤ foldD a l
  | [], _ => Nat.le_refl _
  | u :: l, a => by
    have := foldD_ge l (10 * a + (u.toNat - 48))
    show a ≤ foldD (10 * a + (u.toNat - 48)) l
    omega
theorem num_run (neg : Bool) (rest : List UInt8) (hr : ∀ u r, rest = u :: r → ¬ isD u) : ∀ (l L pre : List UInt8) (a f : Nat), L = pre ++ (l ++ rest) → (∀ u ∈ l, isD u) → foldD a l ≤ 1000000000000 → L.length ≤ pre.length + f →
    numS (tx L) neg f pre.length a = ⟨1, if neg then -((foldD a l : Nat) : Int) else (foldD a l : Nat), [], pre.length + l.length, 0⟩
  | [], L, pre, a, f, hL, _, _, _ => by
    refine num_end ?_ f
    rintro ⟨h1, h2⟩
    cases rest with
    | nil => rw [tx_size, hL] at h1; simp at h1
    | cons u r =>
      have hb := byte_mid pre u r
      rw [List.nil_append] at hL
      rw [← hL] at hb
      rw [hb.1] at h2
      exact hr u r rfl h2
  | u :: l, L, pre, a, f, hL, hd, hfold, hf => by
    have hL1 : L = pre ++ u :: (l ++ rest) := by rw [hL]; simp
    have hL3 : L = (pre ++ [u]) ++ (l ++ rest) := by rw [hL]; simp
    have hb := byte_mid pre u (l ++ rest)
    rw [← hL1] at hb
    have e2 : (pre ++ [u]).length = pre.length + 1 := by simp
    have hlen : L.length = pre.length + l.length + rest.length + 1 := by rw [hL1]; simp; omega
    have hlt : pre.length < (tx L).size := by rw [tx_size]; omega
    obtain ⟨g, rfl⟩ : ∃ g, f = g + 1 := ⟨f - 1, by omega⟩
    have hstep : foldD a (u :: l) = foldD (10 * a + (u.toNat - 48)) l := rfl
    rw [hstep] at hfold ⊢
    have ih := num_run neg rest hr l L (pre ++ [u]) (10 * a + (u.toNat - 48)) g hL3 (fun x hx => hd x (by simp [hx])) hfold (by rw [e2]; omega)
    rw [e2] at ih
    have hge := foldD_ge l (10 * a + (u.toNat - 48))
    have hbn : (byteAt (tx L) pre.length).toNat = u.toNat := by rw [hb.1]; simp
    rw [numS, if_pos ⟨hlt, by rw [hb.1]; exact hd u (by simp)⟩, hbn, if_pos (by omega), ih]
    simp only [RR.mk.injEq, true_and, List.length_cons, and_true]
    omega
theorem foldD_append (a : Nat) (l m : List UInt8) : foldD a (l ++ m) = foldD (foldD a l) m := by simp [foldD]
theorem digit_byte {d : Nat} (h : d < 10) : (UInt8.ofNat (48 + d)).toNat = 48 + d := by rw [UInt8.toNat_ofNat', Nat.mod_eq_of_lt (by omega)]
theorem dec_fold (m : Nat) : foldD 0 (Lib.decDigits m) = m ∧ (∀ u ∈ Lib.decDigits m, isD u) ∧ 0 < (Lib.decDigits m).length := by
  induction m using Nat.strongRecOn with
  | _ m ih =>
    have hdig : ∀ d, d < 10 → isD (UInt8.ofNat (48 + d)) := fun d hd => by
      unfold isD isDig
      rw [digit_byte hd]
      simp; omega
    by_cases h : m < 10
    · rw [Lib.decDigits, dif_pos h]
      refine ⟨?_, fun u hu => ?_, by simp⟩
      · show 10 * 0 + ((UInt8.ofNat (48 + m)).toNat - 48) = m
        rw [digit_byte h]; omega
      · obtain rfl := List.mem_singleton.1 hu
        exact hdig m h
    · obtain ⟨h1, h2, h3⟩ := ih (m / 10) (by omega)
      rw [Lib.decDigits, dif_neg h]
      refine ⟨?_, fun u hu => ?_, by simp⟩
      · rw [foldD_append, h1]
        show 10 * (m / 10) + ((UInt8.ofNat (48 + m % 10)).toNat - 48) = m
        rw [digit_byte (by omega)]; omega
      · rcases List.mem_append.1 hu with hu | hu
        · exact h2 u hu
        · obtain rfl := List.mem_singleton.1 hu
          exact hdig _ (by omega)
/-- A number comes back. -/
theorem back_num (n : Int) (rest : List UInt8) (h1 : -1000000000000 ≤ n) (h2 : n ≤ 1000000000000) (hr : ∀ u r, rest = u :: r → ¬ isD u) : readS (tx (Lib.itoa n ++ rest)) = ⟨1, n, [], (Lib.itoa n).length, 0⟩ := by
  have hD : ∀ u : UInt8, isD u → ((u.toNat : Nat) : Int) ≠ 39 ∧ ((u.toNat : Nat) : Int) ≠ 45 := fun u hu => by
    unfold isD isDig at hu
    simp only [Bool.and_eq_true, decide_eq_true_eq] at hu
    omega
  unfold Lib.itoa
  by_cases hn : n < 0
  · rw [if_pos hn]
    obtain ⟨f1, f2, f3⟩ := dec_fold n.natAbs
    generalize Lib.decDigits n.natAbs = D at *
    match D, f3 with
    | u :: D, _ =>
      have hL : 45 :: (u :: D) ++ rest = [45] ++ ((u :: D) ++ rest) := by simp
      rw [hL]
      have hb0 : byteAt (tx ([45] ++ ((u :: D) ++ rest))) 0 = 45 := (byte_mid [] 45 ((u :: D) ++ rest)).1
      have hb1 : byteAt (tx ([45] ++ ((u :: D) ++ rest))) 1 = ((u.toNat : Nat) : Int) := (byte_mid [45] u (D ++ rest)).1
      have hsz : (tx ([45] ++ ((u :: D) ++ rest))).size = D.length + rest.length + 2 := by rw [tx_size]; simp
      have hrun := num_run true rest hr (u :: D) ([45] ++ ((u :: D) ++ rest)) [45] 0 (tx ([45] ++ ((u :: D) ++ rest))).size rfl f2 (by rw [f1]; omega) (by rw [tx_size]; omega)
      unfold readS
      rw [if_neg (by rw [hsz]; omega), if_neg (by rw [hb0]; decide), if_pos hb0, if_pos (by rw [hb1]; exact f2 u (by simp))]
      refine hrun.trans ?_
      rw [f1]
      simp only [RR.mk.injEq, true_and, if_true, List.length_cons, List.length_nil, and_true]
      omega
  · rw [if_neg hn]
    obtain ⟨f1, f2, f3⟩ := dec_fold n.toNat
    generalize Lib.decDigits n.toNat = D at *
    match D, f3 with
    | u :: D, _ =>
      have hu := hD u (f2 u (by simp))
      have hb0 : byteAt (tx ((u :: D) ++ rest)) 0 = ((u.toNat : Nat) : Int) := (byte_mid [] u (D ++ rest)).1
      have hsz : (tx ((u :: D) ++ rest)).size = D.length + rest.length + 1 := by rw [tx_size]; simp
      have hrun := num_run false rest hr (u :: D) ((u :: D) ++ rest) [] 0 (tx ((u :: D) ++ rest)).size rfl f2 (by rw [f1]; omega) (by rw [tx_size]; simp)
      unfold readS
      rw [if_neg (by rw [hsz, hb0]; omega), if_neg (by rw [hb0]; exact hu.1), if_neg (by rw [hb0]; exact hu.2), if_pos (by rw [hb0]; exact f2 u (by simp))]
      refine hrun.trans ?_
      rw [f1]
      simp only [RR.mk.injEq, true_and, Bool.false_eq_true, if_false, List.length_nil, Nat.zero_add, and_true]
      omega
end Go.Proofs.YtddmdieeljjamaaDoor
/-
  A VALUE PRINTED: the program's function, by contract.
-/
namespace Go.Proofs.YtddmdieeljjamaaDoor
open Go.ChangeShapes Go.WideShapes Go.ChangeAt Go.RowKit

theorem escL_len : ∀ l, (escL l).length ≤ 2 * l.length
  | [] => Nat.le_refl _
  | u :: l => by
    have := escL_len l
    rw [escL_cons, List.length_append]
    split <;> simp <;> omega
def outL (t : List UInt8) (j : Nat) : List UInt8 := 39 :: escL (t.take j)
theorem outL_len (t : List UInt8) (j : Nat) : (outL t j).length ≤ 2 * j + 1 := by
  unfold outL
  have := escL_len (t.take j)
  have h : (t.take j).length ≤ j := List.length_take_le _ _
  simp; omega
theorem outL_step (s : ByteArray) (j : Nat) (h : j < s.size) : outL s.data.toList (j + 1) = outL s.data.toList j ++ (if isSp (byteAt s j) then [92, ubyte s j] else [ubyte s j]) := by
  have hl : j < s.data.toList.length := by simpa using h
  have e : s.data.toList.take (j + 1) = s.data.toList.take j ++ [ubyte s j] := by
    rw [List.take_add_one, List.getElem?_eq_getElem hl]
    unfold ubyte
    rw [List.getD_eq_getElem?_getD, List.getElem?_eq_getElem hl]; rfl
  unfold outL
  rw [e, escL_snoc, ← byteAt_u]; rfl
theorem outL_end (s : ByteArray) : outL s.data.toList s.size ++ [39] = 39 :: (escL s.data.toList ++ [39]) := by
  unfold outL
  rw [List.take_of_length_le (by simp)]; rfl
set_option maxHeartbeats 3200000 in
theorem print_num (n : Int) (s : ByteArray) (w : World) (h0 : -9223372036854775808 ≤ n) (h1 : n ≤ 9223372036854775807) (hg : goodV 1 n s = true) (hs : s.size ≤ 1000)
    (hT : ∀ x, Below w.heap.size w x → Lib.TabIs Tryd.prog x "internal/strconv.uint64pow10" .u64 Lib.pow10Tab) :
    Calls Tryd.prog 13 #[.agg #[.int .i64 1, .int .i64 n, .string s]] w fun e w' => e = .returned (.tuple #[.string (tx (Lib.itoa n)), .int .i64 0]) ∧ Below w.heap.size w w' := by
  have hgood := fun w => vgood_c 1 n s w hs
  rw [hg] at hgood
  have hX0 := hid0 (heap_alloc_new w (.cells #[.int .i64 1, .int .i64 n, .string s] 33))
  have hs0 : Hid ((w.alloc (.cells #[.int .i64 1, .int .i64 n, .string s] 33)).heap.size = w.heap.size + 1) := by show (w.heap.push _).size = _; simp
  have hB0 : Hid (Below w.heap.size w (w.alloc (.cells #[.int .i64 1, .int .i64 n, .string s] 33))) := (Below.refl _ _).alloc (Nat.le_refl _) _
  replace hT := hid0 hT
  go_enter Tryd.func13, Tryd.ntmps13
  go_wp2_with fail
  refine (hgood _).mono ?_
  rintro e w1 ⟨rfl, hB⟩
  have hX : Hid (w1.heap[w.heap.size]? = some (.cells #[.int .i64 1, .int .i64 n, .string s] 33)) := (hB.block _ (by rw [hs0.out]; omega)).trans hX0.out
  replace hB : Hid (Below w.heap.size w w1) := hB0.out.trans (hB.mono (by rw [hs0.out]; omega))
  obtain ⟨⟨g0, g1, g2⟩, r0, r1, r2⟩ := box_facts hX.out
  have hit := Tryd.strconv_Itoa n h0 h1 w1 (hT.out w1 hB.out)
  clear hgood hX0 hB0 hs0 hX
  go_wp2_with fail
  refine hit.mono ?_
  rintro e w2 ⟨rfl, k, os, rfl⟩
  have hfin : Hid (Below w.heap.size w (Go.Sort.grow (w1.drewN k) os)) := hB.out.trans (Go.Lib.below_grow _ _ hB.out.size k os)
  clear hit hB g0 g1 g2 r0 r1 r2
  generalize Go.Sort.grow (w1.drewN k) os = w3 at *
  go_wp2
  go_ret2
  exact ⟨rfl, hfin.out⟩
set_option maxHeartbeats 3200000 in
theorem print_bad (k n : Int) (s : ByteArray) (w : World) (hg : goodV k n s = false ∨ k = 0) (hs : s.size ≤ 1000) :
    Calls Tryd.prog 13 #[.agg #[.int .i64 k, .int .i64 n, .string s]] w fun e w' => e = .returned (.tuple #[.string ⟨#[]⟩, .int .i64 2]) ∧ Below w.heap.size w w' := by
  have hgood := fun w => vgood_c k n s w hs
  have hX0 := hid0 (heap_alloc_new w (.cells #[.int .i64 k, .int .i64 n, .string s] 33))
  have hs0 : Hid ((w.alloc (.cells #[.int .i64 k, .int .i64 n, .string s] 33)).heap.size = w.heap.size + 1) := by show (w.heap.push _).size = _; simp
  have hB0 : Hid (Below w.heap.size w (w.alloc (.cells #[.int .i64 k, .int .i64 n, .string s] 33))) := (Below.refl _ _).alloc (Nat.le_refl _) _
  cases hgv : goodV k n s with
  | false =>
    rw [hgv] at hgood
    clear hg hgv
    go_enter Tryd.func13, Tryd.ntmps13
    go_wp2_with fail
    refine (hgood _).mono ?_
    rintro e w1 ⟨rfl, hB⟩
    have hX : Hid (w1.heap[w.heap.size]? = some (.cells #[.int .i64 k, .int .i64 n, .string s] 33)) := (hB.block _ (by rw [hs0.out]; omega)).trans hX0.out
    replace hB : Hid (Below w.heap.size w w1) := hB0.out.trans (hB.mono (by rw [hs0.out]; omega))
    obtain ⟨⟨g0, g1, g2⟩, r0, r1, r2⟩ := box_facts hX.out
    clear hgood hX0 hB0 hs0 hX
    go_wp2
    go_ret2
    exact ⟨rfl, hB.out⟩
  | true =>
    rw [hgv] at hgood hg
    have hk : k = 0 := hg.resolve_left (by simp)
    subst hk
    clear hg hgv
    go_enter Tryd.func13, Tryd.ntmps13
    go_wp2_with fail
    refine (hgood _).mono ?_
    rintro e w1 ⟨rfl, hB⟩
    have hX : Hid (w1.heap[w.heap.size]? = some (.cells #[.int .i64 0, .int .i64 n, .string s] 33)) := (hB.block _ (by rw [hs0.out]; omega)).trans hX0.out
    replace hB : Hid (Below w.heap.size w w1) := hB0.out.trans (hB.mono (by rw [hs0.out]; omega))
    obtain ⟨⟨g0, g1, g2⟩, r0, r1, r2⟩ := box_facts hX.out
    clear hgood hX0 hB0 hs0 hX
    go_wp2
    go_ret2
    exact ⟨rfl, hB.out⟩

set_option maxHeartbeats 6400000 in
theorem print_text (n : Int) (s : ByteArray) (w : World) (hg : goodV 2 n s = true) (hs : s.size ≤ 1000) :
    Calls Tryd.prog 13 #[.agg #[.int .i64 2, .int .i64 n, .string s]] w fun e w' => e = .returned (.tuple #[.string (tx (39 :: (escL s.data.toList ++ [39]))), .int .i64 0]) ∧ Below w.heap.size w w' := by
  have hgood := fun w => vgood_c 2 n s w hs
  rw [hg] at hgood
  have hspc := fun b w => special_c b w
  obtain ⟨i0, hi, hz0, hz1, hz2⟩ := info_parts infoU8
  have hX0 := hid0 (heap_alloc_new w (.cells #[.int .i64 2, .int .i64 n, .string s] 33))
  have hs0 : Hid ((w.alloc (.cells #[.int .i64 2, .int .i64 n, .string s] 33)).heap.size = w.heap.size + 1) := by show (w.heap.push _).size = _; simp
  have hB0 : Hid (Below w.heap.size w (w.alloc (.cells #[.int .i64 2, .int .i64 n, .string s] 33))) := (Below.refl _ _).alloc (Nat.le_refl _) _
  have hstep := hid0 (fun j h => outL_step s j h)
  have hend := hid0 (outL_end s)
  have hol := hid0 (fun j => outL_len s.data.toList j)
  rw [← hend.out]
  obtain ⟨oL, hoL⟩ : ∃ oL : Nat → List UInt8, Hid (oL = outL s.data.toList) := ⟨_, (rfl : _ = _)⟩
  rw [← hoL.out] at hstep hol ⊢
  have h00 : Hid (oL 0 = [39]) := by show _ = _; rw [hoL.out]; rfl
  clear hoL hend
  go_enter Tryd.func13, Tryd.ntmps13
  go_wp2_with fail
  refine (hgood _).mono ?_
  rintro e w1 ⟨rfl, hB⟩
  have hX : Hid (w1.heap[w.heap.size]? = some (.cells #[.int .i64 2, .int .i64 n, .string s] 33)) := (hB.block _ (by rw [hs0.out]; omega)).trans hX0.out
  have hsz1 : Hid (w.heap.size + 1 ≤ w1.heap.size) := by have := hB.size; rw [hs0.out] at this; exact this
  replace hB : Hid (Below w.heap.size w w1) := hB0.out.trans (hB.mono (by rw [hs0.out]; omega))
  obtain ⟨⟨g0, g1, g2⟩, r0, r1, r2⟩ := box_facts hX.out
  clear hgood hX0 hB0 hs0
  have hl1 : Hid (w.heap.size < w1.heap.size) := by have := hsz1.out; show _ < _; omega
  have hXa : Hid ((w1.alloc (.cells #[.int .u8 39] 5)).heap[w.heap.size]? = some (.cells #[.int .i64 2, .int .i64 n, .string s] 33)) := (heap_alloc_old _ _ hl1.out).trans hX.out
  have hBa : Hid (Below w.heap.size w (w1.alloc (.cells #[.int .u8 39] 5))) := hB.out.alloc hB.out.size _
  have hsa : Hid (w.heap.size + 1 ≤ (w1.alloc (.cells #[.int .u8 39] 5)).heap.size) := by have := hsz1.out; show _ ≤ (w1.heap.push _).size; simp; omega
  have howna : Hid ((w1.alloc (.cells #[.int .u8 39] 5)).ownsRow (w.heap.size + 1) 5 1 (.slice (some ⟨w1.heap.size, 0, none⟩) 1 1) (oL 0).length ((oL 0).map u8v)) := by
    show World.ownsRow _ _ _ _ _ _ _
    rw [h00.out]
    exact World.ownsRow_lit w1 #[.int .u8 39] 1 hsz1.out (by unfold maxLen; omega) rfl
  obtain ⟨⟨f0, f1, f2⟩, q0, q1, q2⟩ := box_facts hXa.out
  clear hX hB hsz1
  have hlt1 : w.heap.size < w1.heap.size := hl1.out
  go_wp2_with fail
  clear g0 g1 g2 r0 r1 r2 f0 f1 f2 q0 q1 q2
  go_loopw [4, 24] (fun x i wr => ∃ (j : Nat) (a : Option Addr) (c : Nat), x = .slice a (oL j).length c ∧ i = .int .i64 (j : Int) ∧ j ≤ s.size ∧ Hid (wr.ownsRow (w.heap.size + 1) 5 1 (.slice a (oL j).length c) (oL j).length ((oL j).map u8v)) ∧
      Hid (wr.heap[w.heap.size]? = some (.cells #[.int .i64 2, .int .i64 n, .string s] 33)) ∧ Hid (w.heap.size + 1 ≤ wr.heap.size) ∧ Hid (Below w.heap.size w wr)) (fun _ i _ => s.size - (intOf i).toNat)
  case atStart => exact ⟨0, some ⟨w1.heap.size, 0, none⟩, 1, by rw [h00.out]; rfl, rfl, Nat.zero_le _, (by rw [h00.out] at howna ⊢; exact howna), hXa, hsa, hBa⟩
  case round =>
    clear howna hXa hsa hBa hl1 hlt1 h00
    obtain ⟨j, a, c, rfl, rfl, hj, hown, hX, hszw_, hB⟩ := hrel
    obtain ⟨⟨g0, g1, g2⟩, r0, r1, r2⟩ := box_facts hX.out
    have hlen := hol.out j
    by_cases hlt : j < s.size
    · have hj1 : (j : Int) < (s.size : Int) := by omega
      have hbj := byteAt_eq (s := s) (k := j) hlt
      have hbu : Hid (byteAt s j = ((ubyte s j).toNat : Int)) := byteAt_u s j
      have hsp := fun w => hspc (byteAt s j) w
      have hst := hid0 (hstep.out j hlt)
      have hwl : w.heap.size < wr.heap.size := by have := hszw_.out; omega
      generalize byteAt s j = b at *
      generalize hL : (oL j).length = L at *
      replace hL := hid0 hL
      have hL9 : L ≤ 2001 := by omega
      clear hlen
      cases hd : isSp b with
      | false =>
        rw [hd] at hsp hst
        have hst2 : Hid (oL (j + 1) = oL j ++ [ubyte s j]) := hst.out
        clear hst hd
        go_wp2_with fail
        refine (hsp _).mono ?_
        rintro e wr ⟨rfl, rfl⟩
        clear hsp
        have own_a := hown.out
        have sz_a := hszw_.out
        go_wp2_with (at_builtin; refine wpList_append_own _ rfl _ _ 52 rfl (w.heap.size + 1) 5 i0 (.int .u8 0) 1 1 Tryd.underlying52 hi hz0 hz1 hz2 rfl (by decide) _ _ _ rfl (own_a.alloc _) ⟨wr.heap.size, 0, none⟩ 1 1 [.int .u8 b] rfl rfl (cell_one_new _ _ _) ?c2a ?c3a ?c4a ?c5a ?_)
        case c2a => first | rfl | (intro u hu; simp at hu; subst hu; rfl)
        case c3a => unfold maxLen; omega
        case c4a => omega
        case c5a => first | omega | (simp; omega)
        intro v' w3 hown' hgrow _
        have hB3 : Hid (Below w.heap.size w w3) := (hB.out.alloc (by omega) _).grown hgrow (by simp; omega) (fun k hk => by have := (own_a.lt k hk).1; omega)
        obtain ⟨a', c', e'⟩ := own_slice hown'
        subst e'
        have hX3 : Hid (w3.heap[w.heap.size]? = some (.cells #[.int .i64 2, .int .i64 n, .string s] 33)) := by
          refine (hgrow.block _ (by simp; omega) (fun e => ?_)).trans ((heap_alloc_old _ _ (by omega)).trans hX.out)
          have := (own_a.lt _ e.symm).1
          omega
        have hs3 : Hid (w.heap.size + 1 ≤ w3.heap.size) := by have := hgrow.size; simp at this; show _ ≤ _; omega
        have hnx : Hid (w3.ownsRow (w.heap.size + 1) 5 1 (.slice a' (oL (j + 1)).length c') (oL (j + 1)).length ((oL (j + 1)).map u8v)) := by
          show World.ownsRow _ _ _ _ _ _ _
          have e1 : (oL (j + 1)).length = L + 1 := by rw [hst2.out]; simp only [List.length_append, List.length_cons, List.length_nil]; rw [hL.out]
          have e2 : (oL (j + 1)).map u8v = (oL j).map u8v ++ [.int .u8 b] := by rw [hst2.out, hbu.out]; simp [u8v]
          rw [e1, e2]; exact hown'
        have he1 : Hid ((oL (j + 1)).length = L + 1) := by show _ = _; rw [hst2.out]; simp only [List.length_append, List.length_cons, List.length_nil]; rw [hL.out]
        clear own_a hown' hgrow sz_a hown hX hszw_ hB hbu
        obtain ⟨⟨g0, g1, g2⟩, r0, r1, r2⟩ := box_facts hX3.out
        go_wp2
        go_roundw
        case rel => exact ⟨j + 1, a', c', by rw [he1.out], by go_num, by omega, hnx, hX3, hs3, hB3⟩
        case measure => simp [intOf]; omega
      | true =>
        rw [hd] at hsp hst
        have hst2 : Hid (oL (j + 1) = oL j ++ [92] ++ [ubyte s j]) := by show _ = _; rw [List.append_assoc]; exact hst.out
        clear hst hd
        go_wp2_with fail
        refine (hsp _).mono ?_
        rintro e wr ⟨rfl, rfl⟩
        clear hsp
        have own_a := hown.out
        have sz_a := hszw_.out
        go_wp2_with (at_builtin; refine wpList_append_own _ rfl _ _ 52 rfl (w.heap.size + 1) 5 i0 (.int .u8 0) 1 1 Tryd.underlying52 hi hz0 hz1 hz2 rfl (by decide) _ _ _ rfl (own_a.alloc _) ⟨wr.heap.size, 0, none⟩ 1 1 [.int .u8 92] rfl rfl (cell_one_new _ _ _) ?c2a ?c3a ?c4a ?c5a ?_)
        case c2a => first | rfl | (intro u hu; simp at hu; subst hu; rfl)
        case c3a => unfold maxLen; omega
        case c4a => omega
        case c5a => first | omega | (simp; omega)
        intro v' w3 hown' hgrow _
        have hB3 : Hid (Below w.heap.size w w3) := (hB.out.alloc (by omega) _).grown hgrow (by simp; omega) (fun k hk => by have := (own_a.lt k hk).1; omega)
        obtain ⟨a', c', e'⟩ := own_slice hown'
        subst e'
        have hX3 : Hid (w3.heap[w.heap.size]? = some (.cells #[.int .i64 2, .int .i64 n, .string s] 33)) := by
          refine (hgrow.block _ (by simp; omega) (fun e => ?_)).trans ((heap_alloc_old _ _ (by omega)).trans hX.out)
          have := (own_a.lt _ e.symm).1
          omega
        have hs3 : Hid (w.heap.size + 1 ≤ w3.heap.size) := by have := hgrow.size; simp at this; show _ ≤ _; omega
        clear own_a hgrow sz_a hown hX hszw_ hB g0 g1 g2 r0 r1 r2
        obtain ⟨⟨g0, g1, g2⟩, r0, r1, r2⟩ := box_facts hX3.out
        have hwl3 : w.heap.size < w3.heap.size := by have := hs3.out; omega
        have hszw_ := hs3
        have hB := hB3
        have hX := hX3
        have hown := hid0 hown'
        clear hown' hs3 hB3 hX3
        have own_b := hown.out
        have sz_b := hszw_.out
        go_wp2_with (at_builtin; refine wpList_append_own _ rfl _ _ 52 rfl (w.heap.size + 1) 5 i0 (.int .u8 0) 1 1 Tryd.underlying52 hi hz0 hz1 hz2 rfl (by decide) _ _ _ rfl (own_b.alloc _) ⟨w3.heap.size, 0, none⟩ 1 1 [.int .u8 b] rfl rfl (cell_one_new _ _ _) ?c2b ?c3b ?c4b ?c5b ?_)
        case c2b => first | rfl | (intro u hu; simp at hu; subst hu; rfl)
        case c3b => unfold maxLen; omega
        case c4b => omega
        case c5b => first | omega | (simp; omega)
        intro v' w4 hown' hgrow _
        have hB4 : Hid (Below w.heap.size w w4) := (hB.out.alloc (by omega) _).grown hgrow (by simp; omega) (fun k hk => by have := (own_b.lt k hk).1; omega)
        obtain ⟨a2, c2, e2⟩ := own_slice hown'
        subst e2
        have hX4 : Hid (w4.heap[w.heap.size]? = some (.cells #[.int .i64 2, .int .i64 n, .string s] 33)) := by
          refine (hgrow.block _ (by simp; omega) (fun e => ?_)).trans ((heap_alloc_old _ _ (by omega)).trans hX.out)
          have := (own_b.lt _ e.symm).1
          omega
        have hs4 : Hid (w.heap.size + 1 ≤ w4.heap.size) := by have := hgrow.size; simp at this; show _ ≤ _; omega
        have hnx : Hid (w4.ownsRow (w.heap.size + 1) 5 1 (.slice a2 (oL (j + 1)).length c2) (oL (j + 1)).length ((oL (j + 1)).map u8v)) := by
          show World.ownsRow _ _ _ _ _ _ _
          have e1 : (oL (j + 1)).length = L + 1 + 1 := by rw [hst2.out]; simp only [List.length_append, List.length_cons, List.length_nil]; rw [hL.out]
          have e2 : (oL (j + 1)).map u8v = (oL j).map u8v ++ [.int .u8 92, .int .u8 b] := by rw [hst2.out, hbu.out]; simp [u8v]
          rw [e1, e2]; exact hown'
        have he1 : Hid ((oL (j + 1)).length = L + 1 + 1) := by show _ = _; rw [hst2.out]; simp only [List.length_append, List.length_cons, List.length_nil]; rw [hL.out]
        clear own_b hown' hgrow sz_b hown hX hszw_ hB hbu g0 g1 g2 r0 r1 r2
        obtain ⟨⟨g0, g1, g2⟩, r0, r1, r2⟩ := box_facts hX4.out
        go_wp2
        go_roundw
        case rel => exact ⟨j + 1, a2, c2, by rw [he1.out], by go_num, by omega, hnx, hX4, hs4, hB4⟩
        case measure => simp [intOf]; omega
    · have hj1 : ¬ (j : Int) < (s.size : Int) := by omega
      obtain rfl : j = s.size := by omega
      generalize hL : (oL s.size).length = L at *
      replace hL := hid0 hL
      have hL9 : L ≤ 2001 := by omega
      clear hlen hstep hol
      have hwl : w.heap.size < wr.heap.size := by have := hszw_.out; omega
      have own_z := hown.out
      have sz_z := hszw_.out
      go_wp2_with (at_builtin; refine wpList_append_own _ rfl _ _ 52 rfl (w.heap.size + 1) 5 i0 (.int .u8 0) 1 1 Tryd.underlying52 hi hz0 hz1 hz2 rfl (by decide) _ _ _ rfl (own_z.alloc _) ⟨wr.heap.size, 0, none⟩ 1 1 [.int .u8 39] rfl rfl (cell_one_new _ _ _) ?c2z ?c3z ?c4z ?c5z ?_)
      case c2z => first | rfl | (intro u hu; simp at hu; subst hu; rfl)
      case c3z => unfold maxLen; omega
      case c4z => omega
      case c5z => first | omega | (simp; omega)
      intro v' w3 hown' hgrow _
      have hB3 : Hid (Below w.heap.size w w3) := (hB.out.alloc (by omega) _).grown hgrow (by simp; omega) (fun k hk => by have := (own_z.lt k hk).1; omega)
      have hcv := conv_row w3 (w.heap.size + 1) v' (oL s.size ++ [39]) (by
        have e1 : (oL s.size ++ [39]).length = L + 1 := by rw [List.length_append, hL.out]; rfl
        have e2 : (oL s.size ++ [39]).map u8v = (oL s.size).map u8v ++ [.int .u8 39] := by simp [u8v]
        rw [e1, e2]; exact hown')
      clear own_z hown' hgrow sz_z hown hX hszw_ hB g0 g1 g2 r0 r1 r2
      go_wp2
      go_ret2
      exact ⟨rfl, hB3.out⟩
end Go.Proofs.YtddmdieeljjamaaDoor
/-
  BYTES THAT NEED ANOTHER ONE AHEAD. Mathematics alone.
-/
namespace Go.Proofs.YtddmdieeljjamaaDoor
theorem sp_cases {b : Int} (h : isSp b = true) : b = 39 ∨ b = 92 := by
  unfold isSp at h
  simpa using h
theorem sp_not {b : Int} (h : isSp b = false) : b ≠ 39 ∧ b ≠ 92 := by
  unfold isSp at h
  simpa using h
end Go.Proofs.YtddmdieeljjamaaDoor
/-
  A VALUE PRINTED: the reference's functions, by contract.
-/
namespace Go.Proofs.YtddmdieeljjamaaDoor
open Go.ChangeShapes Go.WideShapes Go.ChangeAt Go.RowKit

theorem tx_app (l m : List UInt8) : tx l ++ tx m = tx (l ++ m) := by
  apply ByteArray.ext
  simp [tx]
theorem dec_len : ∀ (k u : Nat), u < 10 ^ (k + 1) → (Lib.decDigits u).length ≤ k + 1
  | 0, u, h => by
    rw [Lib.decDigits, dif_pos (by simpa using h)]; simp
  | k + 1, u, h => by
    by_cases h0 : u < 10
    · rw [Lib.decDigits, dif_pos h0]; simp
    · rw [Lib.decDigits, dif_neg h0]
      have := dec_len k (u / 10) (by rw [Nat.pow_succ] at h; omega)
      simp; omega
theorem dec_len20 (u : Nat) (h : u < 18446744073709551616) : (Lib.decDigits u).length ≤ 20 := dec_len 19 u (by omega)
set_option maxHeartbeats 1600000 in
theorem rnum_c (u : Nat) (w : World) (hu : u < 18446744073709551616) : Calls Tryd.prog 52 #[.int .u64 (u : Int)] w fun e w' => e = .returned (.string (tx (Lib.decDigits u))) ∧ w' = w := by
  induction u using Nat.strongRecOn generalizing w with
  | _ u ih =>
    by_cases h : u < 10
    · have e : Lib.decDigits u = [UInt8.ofNat (48 + u)] := by rw [Lib.decDigits, dif_pos h]
      rw [e]
      have hc : u = 0 ∨ u = 1 ∨ u = 2 ∨ u = 3 ∨ u = 4 ∨ u = 5 ∨ u = 6 ∨ u = 7 ∨ u = 8 ∨ u = 9 := by omega
      clear ih e h hu
      rcases hc with rfl | rfl | rfl | rfl | rfl | rfl | rfl | rfl | rfl | rfl
      all_goals
        go_enter Tryd.func52, Tryd.ntmps52
        go_wp2
        go_ret
        exact ⟨rfl, rfl⟩
    · have e : Lib.decDigits u = Lib.decDigits (u / 10) ++ [UInt8.ofNat (48 + u % 10)] := by rw [Lib.decDigits, dif_neg h]
      have e2 : Lib.decDigits (u % 10) = [UInt8.ofNat (48 + u % 10)] := by rw [Lib.decDigits, dif_pos (by omega)]
      rw [e, ← e2]
      have h1 := fun w => ih (u / 10) (by omega) w (by omega)
      have h2 := fun w => ih (u % 10) (by omega) w (by omega)
      have l1 := dec_len20 (u / 10) (by omega)
      have l2 := dec_len20 (u % 10) (by omega)
      have hs : ¬ 9223372036854775807 < (tx (Lib.decDigits (u / 10))).size + (tx (Lib.decDigits (u % 10))).size := by rw [tx_size, tx_size]; omega
      have ha : Hid (tx (Lib.decDigits (u / 10)) ++ tx (Lib.decDigits (u % 10)) = tx (Lib.decDigits (u / 10) ++ Lib.decDigits (u % 10))) := tx_app _ _
      have q1 : (u : Int) / 10 = ((u / 10 : Nat) : Int) := by omega
      have q2 : (u : Int) % 10 = ((u % 10 : Nat) : Int) := by omega
      have hu1 : ¬ (u : Int) < 10 := by omega
      have hu2 : (u : Int) < 18446744073709551616 := by omega
      obtain ⟨Z, hZ⟩ : ∃ Z, Hid (Z = tx (Lib.decDigits (u / 10) ++ Lib.decDigits (u % 10))) := ⟨_, (rfl : _ = _)⟩
      rw [← hZ.out] at ha ⊢
      clear ih e e2 h l1 l2 hZ
      generalize tx (Lib.decDigits (u / 10)) = A at *
      generalize tx (Lib.decDigits (u % 10)) = B at *
      generalize u / 10 = x at *
      generalize u % 10 = y at *
      go_enter Tryd.func52, Tryd.ntmps52
      go_wp2_with fail
      refine (h1 _).mono ?_
      rintro e w' ⟨rfl, rfl⟩
      go_wp2_with fail
      refine (h2 _).mono ?_
      rintro e w' ⟨rfl, rfl⟩
      clear h1 h2
      go_wp2
      go_ret
      exact ⟨by rw [← ha.out]; rfl, rfl⟩
set_option maxHeartbeats 1600000 in
theorem rNum_c (n : Int) (w : World) (h1 : -1000000000000 ≤ n) (h2 : n ≤ 1000000000000) : Calls Tryd.prog 38 #[.int .i64 n] w fun e w' => e = .returned (.string (tx (Lib.itoa n))) ∧ w' = w := by
  unfold Lib.itoa
  by_cases hn : n < 0
  · rw [if_pos hn]
    obtain ⟨m, hm⟩ : ∃ m : Nat, n.natAbs = m + 1 := ⟨n.natAbs - 1, by omega⟩
    rw [hm]
    have hnum := fun w => rnum_c (m + 1) w (by omega)
    have l1 := dec_len20 (m + 1) (by omega)
    have hs : ¬ 9223372036854775807 < (⟨#[45]⟩ : ByteArray).size + (tx (Lib.decDigits (m + 1))).size := by
      have e : (⟨#[45]⟩ : ByteArray).size = 1 := rfl
      rw [tx_size, e]; omega
    have ha : Hid ((⟨#[45]⟩ : ByteArray) ++ tx (Lib.decDigits (m + 1)) = tx (45 :: Lib.decDigits (m + 1))) := tx_app [45] _
    have e1 : -(n + 1) = (m : Int) := by omega
    have e2 : wrap64 (n + 1) = n + 1 := IntWalk.wrap64_in _ (by omega)
    obtain ⟨Z, hZ⟩ : ∃ Z, Hid (Z = tx (45 :: Lib.decDigits (m + 1))) := ⟨_, (rfl : _ = _)⟩
    rw [← hZ.out] at ha ⊢
    have e3 : ((m + 1 : Nat) : Int) = (m : Int) + 1 := by omega
    rw [e3] at hnum
    clear hZ l1 hm e3
    generalize tx (Lib.decDigits (m + 1)) = B at *
    have hm1 : (m : Int) ≤ 1000000000000 := by omega
    go_enter Tryd.func38, Tryd.ntmps38
    go_wp2_with fail
    refine (hnum _).mono ?_
    rintro e w' ⟨rfl, rfl⟩
    clear hnum
    go_wp2
    go_ret
    exact ⟨by rw [← ha.out]; rfl, rfl⟩
  · rw [if_neg hn]
    obtain ⟨m, rfl⟩ := Int.eq_ofNat_of_zero_le (show 0 ≤ n by omega)
    rw [Int.toNat_natCast]
    have hnum := fun w => rnum_c m w (by omega)
    generalize tx (Lib.decDigits m) = B at *
    go_enter Tryd.func38, Tryd.ntmps38
    go_wp2_with fail
    refine (hnum _).mono ?_
    rintro e w' ⟨rfl, rfl⟩
    clear hnum
    go_wp2
    go_ret
    exact ⟨rfl, rfl⟩
set_option maxHeartbeats 1600000 in
theorem rprint_num (n : Int) (s : ByteArray) (w : World) (h1 : -1000000000000 ≤ n) (h2 : n ≤ 1000000000000) : Calls Tryd.prog 19 #[.agg #[.int .i64 1, .int .i64 n, .string s]] w fun e w' =>
    e = .returned (.string (tx (Lib.itoa n))) ∧ Below w.heap.size w w' := by
  have hnum := fun w => rNum_c n w h1 h2
  have hB := hid0 ((Below.refl w.heap.size w).alloc (Nat.le_refl _) (.cells #[.int .i64 1, .int .i64 n, .string s] 33))
  generalize tx (Lib.itoa n) = T at *
  go_enter Tryd.func19, Tryd.ntmps19
  go_wp2_with fail
  refine (hnum _).mono ?_
  rintro e w' ⟨rfl, rfl⟩
  clear hnum
  go_wp2
  go_ret
  exact ⟨rfl, hB.out⟩
theorem extract_one (s : ByteArray) (j : Nat) (h : j < s.size) : s.extract j (j + 1) = tx [ubyte s j] := by
  have hl : j < s.data.size := h
  have hl2 : j < s.data.toList.length := by simpa using hl
  have e : s.data.toList.drop j = ubyte s j :: s.data.toList.drop (j + 1) := by
    have e0 : ubyte s j = s.data.toList[j] := by
      unfold ubyte
      rw [List.getD_eq_getElem?_getD, List.getElem?_eq_getElem hl2]
      rfl
    rw [e0]
    exact List.drop_eq_getElem_cons hl2
  apply ByteArray.ext
  apply Array.ext'
  rw [ByteArray.data_extract, Array.toList_extract, List.extract_eq_take_drop, e]
  have : j + 1 - j = 1 := by omega
  rw [this]
  rfl
set_option maxHeartbeats 3200000 in
theorem rprint_text (n : Int) (s : ByteArray) (w : World) (hs : s.size ≤ 1000) : Calls Tryd.prog 19 #[.agg #[.int .i64 2, .int .i64 n, .string s]] w fun e w' =>
    e = .returned (.string (tx (39 :: (escL s.data.toList ++ [39])))) ∧ Below w.heap.size w w' := by
  have hB := hid0 ((Below.refl w.heap.size w).alloc (Nat.le_refl _) (.cells #[.int .i64 2, .int .i64 n, .string s] 33))
  have hstep := hid0 (fun j h => outL_step s j h)
  have hend := hid0 (outL_end s)
  have hol := hid0 (fun j => outL_len s.data.toList j)
  rw [← hend.out]
  obtain ⟨oL, hoL⟩ : ∃ oL : Nat → List UInt8, Hid (oL = outL s.data.toList) := ⟨_, (rfl : _ = _)⟩
  rw [← hoL.out] at hstep hol ⊢
  have h00 : Hid (oL 0 = [39]) := by show _ = _; rw [hoL.out]; rfl
  clear hoL hend
  go_enter Tryd.func19, Tryd.ntmps19
  go_wp2_with fail
  go_loop [3, 4] (fun x i => ∃ (j : Nat) (T : ByteArray), x = .string T ∧ i = .int .i64 (j : Int) ∧ j ≤ s.size ∧ Hid (T = tx (oL j))) (fun _ i => s.size - (intOf i).toNat)
  case atStart => exact ⟨0, ⟨#[39]⟩, rfl, rfl, Nat.zero_le _, (by show _ = _; rw [h00.out]; rfl)⟩
  case round =>
    clear h00
    obtain ⟨j, T, rfl, rfl, hj, hT⟩ := hrel
    have hTs : Hid (T.size ≤ 2001) := by show _ ≤ _; rw [hT.out, tx_size]; have := hol.out j; omega
    by_cases hlt : j < s.size
    · have hj1 : (j : Int) < (s.size : Int) := by omega
      have hbj := byteAt_eq (s := s) (k := j) hlt
      have hst := hid0 (hstep.out j hlt)
      have hex := extract_one s j hlt
      have hu1 : Hid ((tx [ubyte s j]).size = 1) := by show _ = _; rw [tx_size]; rfl
      have hj2 : (j : Int) + 1 ≤ (s.size : Int) := by omega
      have ht1 : ((j : Int) + 1).toNat = j + 1 := by omega
      generalize hU : tx [ubyte s j] = U at *
      replace hU := hid0 hU
      generalize byteAt s j = b at *
      cases hd : isSp b with
      | false =>
        rw [hd] at hst
        have hnext : Hid (T ++ U = tx (oL (j + 1))) := by
          have e : oL (j + 1) = oL j ++ [ubyte s j] := hst.out
          show _ = _
          rw [e, hT.out, ← hU.out, tx_app]
        obtain ⟨m1, m2⟩ := sp_not hd
        have k1 : (b == 39) = false := by simp [m1]
        have k2 : (b == 92) = false := by simp [m2]
        have hsum : ¬ 9223372036854775807 < T.size + U.size := by have := hTs.out; rw [hu1.out]; omega
        clear hst hd m1 m2
        go_wp2
        go_round
        case rel => exact ⟨j + 1, _, rfl, by go_num, by omega, hnext⟩
        case measure => simp [intOf]; omega
      | true =>
        rw [hd] at hst
        have hnext : Hid (T ++ ⟨#[92]⟩ ++ U = tx (oL (j + 1))) := by
          have e : oL (j + 1) = oL j ++ [92] ++ [ubyte s j] := by rw [List.append_assoc]; exact hst.out
          have e9 : (⟨#[92]⟩ : ByteArray) = tx [92] := rfl
          show _ = _
          rw [e, hT.out, ← hU.out, e9, tx_app, tx_app]
        have h92 : (⟨#[92]⟩ : ByteArray).size = 1 := rfl
        have hsum : ¬ 9223372036854775807 < T.size + (⟨#[92]⟩ : ByteArray).size := by have := hTs.out; rw [h92]; omega
        have hsum2 : ¬ 9223372036854775807 < (T ++ ⟨#[92]⟩).size + U.size := by have := hTs.out; rw [hu1.out, ByteArray.size_append, h92]; omega
        replace h92 := hid0 h92
        rcases sp_cases hd with h | h
        · have k1 : (b == 39) = true := by simp [h]
          replace h := hid0 h
          clear hst hd
          go_wp2
          go_round
          case rel => exact ⟨j + 1, _, rfl, by go_num, by omega, hnext⟩
          case measure => simp [intOf]; omega
        · have k1 : (b == 39) = false := by simp [h]
          have k2 : (b == 92) = true := by simp [h]
          replace h := hid0 h
          clear hst hd
          go_wp2
          go_round
          case rel => exact ⟨j + 1, _, rfl, by go_num, by omega, hnext⟩
          case measure => simp [intOf]; omega
    · have hj1 : ¬ (j : Int) < (s.size : Int) := by omega
      obtain rfl : j = s.size := by omega
      have hfin : Hid (T ++ ⟨#[39]⟩ = tx (oL s.size ++ [39])) := by
        have e9 : (⟨#[39]⟩ : ByteArray) = tx [39] := rfl
        show _ = _
        rw [hT.out, e9, tx_app]
      have h39 : (⟨#[39]⟩ : ByteArray).size = 1 := rfl
      have hsum : ¬ 9223372036854775807 < T.size + (⟨#[39]⟩ : ByteArray).size := by have := hTs.out; rw [h39]; omega
      replace h39 := hid0 h39
      clear hstep hol
      go_wp2
      go_ret
      exact ⟨by rw [← hfin.out]; rfl, hB.out⟩
end Go.Proofs.YtddmdieeljjamaaDoor
