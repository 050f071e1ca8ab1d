/-
  WHAT IS PRINTED IS READ AGAIN. Mathematics alone.
-/
import Derived.Test.YtnecfgmbfkocnabDoorRead3
import Derived.Lib.ItoaNum
namespace Go.Proofs.YtnecfgmbfkocnabDoor
open Go.ChangeShapes Go.WideShapes Go.ChangeAt Go.RowKit

def escL (l : List UInt8) : List UInt8 := l.flatMap fun u => if isSp ((u.toNat : Nat) : Int) then [92, u] else [u]
theorem escL_nil : escL [] = [] := rfl
theorem escL_cons (u : UInt8) (l : List UInt8) : escL (u :: l) = (if isSp ((u.toNat : Nat) : Int) then [92, u] else [u]) ++ escL l := by simp [escL]
theorem escL_snoc (l : List UInt8) (u : UInt8) : escL (l ++ [u]) = escL l ++ (if isSp ((u.toNat : Nat) : Int) then [92, u] else [u]) := by simp [escL]
def printL (k n : Int) (t : List UInt8) : List UInt8 := if k = 1 then Lib.itoa n else 39 :: (escL t ++ [39])
theorem byte_mid (pre : List UInt8) (x : UInt8) (post : List UInt8) : byteAt (tx (pre ++ x :: post)) pre.length = ((x.toNat : Nat) : Int) ∧ ubyte (tx (pre ++ x :: post)) pre.length = x := by
  have h : (pre ++ x :: post).getD pre.length 0 = x := by simp [List.getD]
  constructor
  · rw [tx_byte, h]
  · unfold ubyte tx; simp
theorem text_run (rest : List UInt8) : ∀ (t : List UInt8) (L pre out : List UInt8) (f : Nat), L = pre ++ (escL t ++ 39 :: rest) → (∀ u ∈ t, plainB ((u.toNat : Nat) : Int) = true) → out.length + t.length ≤ 100 → L.length ≤ pre.length + f →
    textS (tx L) f pre.length out = ⟨2, 0, out ++ t, pre.length + (escL t).length + 1, 0⟩
  | [], L, pre, out, f, hL, _, _, hf => by
    rw [escL_nil, List.nil_append] at hL
    have hb := byte_mid pre 39 rest
    rw [← hL] at hb
    have hlt : pre.length < (tx L).size := by rw [tx_size, hL]; simp
    obtain ⟨g, rfl⟩ : ∃ g, f = g + 1 := ⟨f - 1, by rw [tx_size] at hlt; omega⟩
    rw [textS, if_pos hlt, if_pos (by rw [hb.1]; rfl)]
    simp [escL_nil]
  | u :: t, L, pre, out, f, hL, hp, ho, hf => by
    have hpu := hp u (by simp)
    have hpt : ∀ x ∈ t, plainB ((x.toNat : Nat) : Int) = true := fun x hx => hp x (by simp [hx])
    rw [List.length_cons] at ho
    rw [escL_cons] at hL ⊢
    by_cases hs : isSp ((u.toNat : Nat) : Int) = true
    · rw [if_pos hs] at hL ⊢
      have hL1 : L = pre ++ 92 :: (u :: (escL t ++ 39 :: rest)) := by rw [hL]; simp
      have hL2 : L = (pre ++ [92]) ++ u :: (escL t ++ 39 :: rest) := by rw [hL]; simp
      have hL3 : L = (pre ++ [92, u]) ++ (escL t ++ 39 :: rest) := by rw [hL]; simp
      have hb := byte_mid pre 92 (u :: (escL t ++ 39 :: rest))
      rw [← hL1] at hb
      have hb2 := byte_mid (pre ++ [92]) u (escL t ++ 39 :: rest)
      rw [← hL2] at hb2
      have e1 : (pre ++ [92]).length = pre.length + 1 := by simp
      have e2 : (pre ++ [92, u]).length = pre.length + 2 := by simp
      rw [e1] at hb2
      have hlen : L.length = pre.length + (escL t).length + rest.length + 3 := by rw [hL1]; simp; omega
      have hlt : pre.length < (tx L).size := by rw [tx_size]; omega
      have hlt2 : pre.length + 1 < (tx L).size := by rw [tx_size]; omega
      obtain ⟨g, rfl⟩ : ∃ g, f = g + 1 := ⟨f - 1, by omega⟩
      have ih := text_run rest t L (pre ++ [92, u]) (out ++ [u]) g hL3 hpt (by simp; omega) (by rw [e2]; omega)
      rw [e2] at ih
      have h92 : ¬ byteAt (tx L) pre.length = 39 := by rw [hb.1]; decide
      have h92' : byteAt (tx L) pre.length = 92 := by rw [hb.1]; rfl
      have hsp : isSp (byteAt (tx L) (pre.length + 1)) = true := by rw [hb2.1]; exact hs
      rw [textS, if_pos hlt, if_neg h92, if_pos h92', if_pos hlt2, if_pos hsp, if_neg (by omega), hb2.2, ih]
      simp only [RR.mk.injEq, true_and, List.append_assoc, List.singleton_append, List.length_append, List.length_cons, List.length_nil, and_true]
      omega
    · have hs2 : isSp ((u.toNat : Nat) : Int) = false := by simpa using hs
      rw [if_neg hs] at hL ⊢
      have hL1 : L = pre ++ u :: (escL t ++ 39 :: rest) := by rw [hL]; simp
      have hL3 : L = (pre ++ [u]) ++ (escL t ++ 39 :: rest) := by rw [hL]; simp
      have hb := byte_mid pre u (escL t ++ 39 :: rest)
      rw [← hL1] at hb
      have e2 : (pre ++ [u]).length = pre.length + 1 := by simp
      have hlen : L.length = pre.length + (escL t).length + rest.length + 2 := by rw [hL1]; simp; omega
      have hlt : pre.length < (tx L).size := by rw [tx_size]; omega
      obtain ⟨g, rfl⟩ : ∃ g, f = g + 1 := ⟨f - 1, by omega⟩
      have ih := text_run rest t L (pre ++ [u]) (out ++ [u]) g hL3 hpt (by simp; omega) (by rw [e2]; omega)
      rw [e2] at ih
      have hn : ((u.toNat : Nat) : Int) ≠ 39 ∧ ((u.toNat : Nat) : Int) ≠ 92 := by unfold isSp at hs2; simpa using hs2
      rw [textS, if_pos hlt, if_neg (by rw [hb.1]; exact hn.1), if_neg (by rw [hb.1]; exact hn.2), if_pos (by rw [hb.1]; exact hpu), if_neg (by omega), hb.2, ih]
      simp only [RR.mk.injEq, true_and, List.append_assoc, List.singleton_append, List.length_cons, and_true]
      omega
/-- A text comes back. -/
theorem back_text (t rest : List UInt8) (hp : ∀ u ∈ t, plainB ((u.toNat : Nat) : Int) = true) (hl : t.length ≤ 100) : readS (tx (39 :: (escL t ++ [39]) ++ rest)) = ⟨2, 0, t, (39 :: (escL t ++ [39])).length, 0⟩ := by
  have hL : 39 :: (escL t ++ [39]) ++ rest = [39] ++ (escL t ++ 39 :: rest) := by simp
  have hb := byte_mid [] 39 (escL t ++ 39 :: rest)
  rw [hL]
  have hb0 : byteAt (tx ([39] ++ (escL t ++ 39 :: rest))) 0 = 39 := hb.1
  have hsz : (tx ([39] ++ (escL t ++ 39 :: rest))).size ≠ 0 := by rw [tx_size]; simp
  have hr := text_run rest t ([39] ++ (escL t ++ 39 :: rest)) [39] [] (tx ([39] ++ (escL t ++ 39 :: rest))).size rfl hp (by simpa using hl) (by rw [tx_size]; omega)
  unfold readS
  rw [if_neg (by rw [hb0]; rintro (h | ⟨_, h⟩); exact hsz h; cases h), if_pos hb0]
  refine hr.trans ?_
  simp; omega
/-! ### Numbers -/
def isD (u : UInt8) : Prop := isDig ((u.toNat : Nat) : Int) = true
def foldD (a : Nat) (l : List UInt8) : Nat := l.foldl (fun a u => 10 * a + (u.toNat - 48)) a
theorem foldD_ge : ∀ l a, a ≤ foldD a l
  | [], _ => Nat.le_refl _
  | u :: l, a => by
    have := foldD_ge l (10 * a + (u.toNat - 48))
    show a ≤ foldD (10 * a + (u.toNat - 48)) l
    omega
theorem num_run (neg : Bool) (rest : List UInt8) (hr : ∀ u r, rest = u :: r → ¬ isD u) : ∀ (l L pre : List UInt8) (a f : Nat), L = pre ++ (l ++ rest) → (∀ u ∈ l, isD u) → foldD a l ≤ 1000000000000 → L.length ≤ pre.length + f →
    numS (tx L) neg f pre.length a = ⟨1, if neg then -((foldD a l : Nat) : Int) else (foldD a l : Nat), [], pre.length + l.length, 0⟩
  | [], L, pre, a, f, hL, _, _, _ => by
    refine num_end ?_ f
    rintro ⟨h1, h2⟩
    cases rest with
    | nil => rw [tx_size, hL] at h1; simp at h1
    | cons u r =>
      have hb := byte_mid pre u r
      rw [List.nil_append] at hL
      rw [← hL] at hb
      rw [hb.1] at h2
      exact hr u r rfl h2
  | u :: l, L, pre, a, f, hL, hd, hfold, hf => by
    have hL1 : L = pre ++ u :: (l ++ rest) := by rw [hL]; simp
    have hL3 : L = (pre ++ [u]) ++ (l ++ rest) := by rw [hL]; simp
    have hb := byte_mid pre u (l ++ rest)
    rw [← hL1] at hb
    have e2 : (pre ++ [u]).length = pre.length + 1 := by simp
    have hlen : L.length = pre.length + l.length + rest.length + 1 := by rw [hL1]; simp; omega
    have hlt : pre.length < (tx L).size := by rw [tx_size]; omega
    obtain ⟨g, rfl⟩ : ∃ g, f = g + 1 := ⟨f - 1, by omega⟩
    have hstep : foldD a (u :: l) = foldD (10 * a + (u.toNat - 48)) l := rfl
    rw [hstep] at hfold ⊢
    have ih := num_run neg rest hr l L (pre ++ [u]) (10 * a + (u.toNat - 48)) g hL3 (fun x hx => hd x (by simp [hx])) hfold (by rw [e2]; omega)
    rw [e2] at ih
    have hge := foldD_ge l (10 * a + (u.toNat - 48))
    have hbn : (byteAt (tx L) pre.length).toNat = u.toNat := by rw [hb.1]; simp
    rw [numS, if_pos ⟨hlt, by rw [hb.1]; exact hd u (by simp)⟩, hbn, if_pos (by omega), ih]
    simp only [RR.mk.injEq, true_and, List.length_cons, and_true]
    omega
theorem foldD_append (a : Nat) (l m : List UInt8) : foldD a (l ++ m) = foldD (foldD a l) m := by simp [foldD]
theorem digit_byte {d : Nat} (h : d < 10) : (UInt8.ofNat (48 + d)).toNat = 48 + d := by rw [UInt8.toNat_ofNat', Nat.mod_eq_of_lt (by omega)]
theorem dec_fold (m : Nat) : foldD 0 (Lib.decDigits m) = m ∧ (∀ u ∈ Lib.decDigits m, isD u) ∧ 0 < (Lib.decDigits m).length := by
  induction m using Nat.strongRecOn with
  | _ m ih =>
    have hdig : ∀ d, d < 10 → isD (UInt8.ofNat (48 + d)) := fun d hd => by
      unfold isD isDig
      rw [digit_byte hd]
      simp; omega
    by_cases h : m < 10
    · rw [Lib.decDigits, dif_pos h]
      refine ⟨?_, fun u hu => ?_, by simp⟩
      · show 10 * 0 + ((UInt8.ofNat (48 + m)).toNat - 48) = m
        rw [digit_byte h]; omega
      · obtain rfl := List.mem_singleton.1 hu
        exact hdig m h
    · obtain ⟨h1, h2, h3⟩ := ih (m / 10) (by omega)
      rw [Lib.decDigits, dif_neg h]
      refine ⟨?_, fun u hu => ?_, by simp⟩
      · rw [foldD_append, h1]
        show 10 * (m / 10) + ((UInt8.ofNat (48 + m % 10)).toNat - 48) = m
        rw [digit_byte (by omega)]; omega
      · rcases List.mem_append.1 hu with hu | hu
        · exact h2 u hu
        · obtain rfl := List.mem_singleton.1 hu
          exact hdig _ (by omega)
/-- A number comes back. -/
theorem back_num (n : Int) (rest : List UInt8) (h1 : -1000000000000 ≤ n) (h2 : n ≤ 1000000000000) (hr : ∀ u r, rest = u :: r → ¬ isD u) : readS (tx (Lib.itoa n ++ rest)) = ⟨1, n, [], (Lib.itoa n).length, 0⟩ := by
  have hD : ∀ u : UInt8, isD u → ((u.toNat : Nat) : Int) ≠ 39 ∧ ((u.toNat : Nat) : Int) ≠ 45 := fun u hu => by
    unfold isD isDig at hu
    simp only [Bool.and_eq_true, decide_eq_true_eq] at hu
    omega
  unfold Lib.itoa
  by_cases hn : n < 0
  · rw [if_pos hn]
    obtain ⟨f1, f2, f3⟩ := dec_fold n.natAbs
    generalize Lib.decDigits n.natAbs = D at *
    match D, f3 with
    | u :: D, _ =>
      have hL : 45 :: (u :: D) ++ rest = [45] ++ ((u :: D) ++ rest) := by simp
      rw [hL]
      have hb0 : byteAt (tx ([45] ++ ((u :: D) ++ rest))) 0 = 45 := (byte_mid [] 45 ((u :: D) ++ rest)).1
      have hb1 : byteAt (tx ([45] ++ ((u :: D) ++ rest))) 1 = ((u.toNat : Nat) : Int) := (byte_mid [45] u (D ++ rest)).1
      have hsz : (tx ([45] ++ ((u :: D) ++ rest))).size = D.length + rest.length + 2 := by rw [tx_size]; simp
      have hrun := num_run true rest hr (u :: D) ([45] ++ ((u :: D) ++ rest)) [45] 0 (tx ([45] ++ ((u :: D) ++ rest))).size rfl f2 (by rw [f1]; omega) (by rw [tx_size]; omega)
      unfold readS
      rw [if_neg (by rw [hsz]; omega), if_neg (by rw [hb0]; decide), if_pos hb0, if_pos (by rw [hb1]; exact f2 u (by simp))]
      refine hrun.trans ?_
      rw [f1]
      simp only [RR.mk.injEq, true_and, if_true, List.length_cons, List.length_nil, and_true]
      omega
  · rw [if_neg hn]
    obtain ⟨f1, f2, f3⟩ := dec_fold n.toNat
    generalize Lib.decDigits n.toNat = D at *
    match D, f3 with
    | u :: D, _ =>
      have hu := hD u (f2 u (by simp))
      have hb0 : byteAt (tx ((u :: D) ++ rest)) 0 = ((u.toNat : Nat) : Int) := (byte_mid [] u (D ++ rest)).1
      have hsz : (tx ((u :: D) ++ rest)).size = D.length + rest.length + 1 := by rw [tx_size]; simp
      have hrun := num_run false rest hr (u :: D) ((u :: D) ++ rest) [] 0 (tx ((u :: D) ++ rest)).size rfl f2 (by rw [f1]; omega) (by rw [tx_size]; simp)
      unfold readS
      rw [if_neg (by rw [hsz, hb0]; omega), if_neg (by rw [hb0]; exact hu.1), if_neg (by rw [hb0]; exact hu.2), if_pos (by rw [hb0]; exact f2 u (by simp))]
      refine hrun.trans ?_
      rw [f1]
      simp only [RR.mk.injEq, true_and, Bool.false_eq_true, if_false, List.length_nil, Nat.zero_add, and_true]
      omega
end Go.Proofs.YtnecfgmbfkocnabDoor
