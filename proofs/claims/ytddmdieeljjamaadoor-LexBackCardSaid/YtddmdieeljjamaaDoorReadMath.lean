/-
  GOOD VALUES: the program's and the reference's, by contract.
-/
import Derived.Test.YtddmdieeljjamaaDoorSl
namespace Go.Proofs.YtddmdieeljjamaaDoor
open Go.ChangeShapes Go.WideShapes Go.ChangeAt Go.RowKit

/-- The k-th byte of a text. -/
def byteAt (s : ByteArray) (k : Nat) : Int := ((s.data.toList.getD k 0).toNat : Int)
theorem byteAt_eq {s : ByteArray} {k : Nat} (h : k < s.size) : ((s[k]).toNat : Int) = byteAt s k := by
  unfold byteAt
  have hl : k < s.data.toList.length := by simpa using h
  rw [List.getD_eq_getElem?_getD, List.getElem?_eq_getElem hl]; rfl
def plainB (b : Int) : Bool := decide (32 ≤ b) && decide (b ≤ 126)
def plainS (s : ByteArray) : Prop := ∀ k, k < s.size → plainB (byteAt s k) = true
instance (s : ByteArray) : Decidable (plainS s) := by unfold plainS; infer_instance
theorem plain_c (b : Int) (w : World) : Calls Tryd.prog 53 #[.int .u8 b] w fun e w' => e = .returned (.bool (plainB b)) ∧ w' = w := by
  by_cases h1 : 32 ≤ b <;> by_cases h2 : b ≤ 126 <;> first | (exfalso; omega) | skip
  all_goals
    go_enter Tryd.func53, Tryd.ntmps53
    go_wp2
    go_ret
    exact ⟨ret_bool (by unfold plainB; simp [h1, h2]), rfl⟩
set_option maxHeartbeats 1600000 in
theorem goodtext_c (s : ByteArray) (w : World) (hs : s.size ≤ 1000) : Calls Tryd.prog 42 #[.string s] w fun e w' => e = .returned (.bool (decide (s.size ≤ 100 ∧ plainS s))) ∧ w' = w := by
  have hp := fun b w => plain_c b w
  by_cases h1 : 100 < s.size
  · have e : Hid (decide (s.size ≤ 100 ∧ plainS s) = false) := decide_eq_false fun h => by omega
    rw [e.out]; clear e
    go_enter Tryd.func42, Tryd.ntmps42
    go_wp2
    go_ret
    exact ⟨rfl, rfl⟩
  obtain ⟨R, hR⟩ : ∃ R, Hid (decide (s.size ≤ 100 ∧ plainS s) = R) := ⟨_, (rfl : _ = _)⟩
  rw [hR.out]
  go_enter Tryd.func42, Tryd.ntmps42
  go_wp2_with fail
  go_loop [9] (fun i => ∃ k : Nat, i = .int .i64 k ∧ k ≤ s.size ∧ Hid (∀ j, j < k → plainB (byteAt s j) = true)) (fun i => s.size - (intOf i).toNat)
  case atStart => exact ⟨0, rfl, Nat.zero_le _, fun j hj => by omega⟩
  case round =>
    obtain ⟨k, rfl, hk, hH⟩ := hrel
    by_cases hlt : k < s.size
    · have hbk := byteAt_eq hlt
      have hlk := hp (s[k].toNat : Int)
      rw [hbk] at hlk
      cases hA : plainB (byteAt s k) with
      | true =>
        have hg : Hid (∀ j, j < k + 1 → plainB (byteAt s j) = true) := fun j hj => by
          rcases Nat.lt_or_ge j k with h' | h'
          · exact hH.out j h'
          · obtain rfl : j = k := by omega
            exact hA
        rw [hA] at hlk
        clear hR hH hp hA
        generalize byteAt s k = b at *
        go_wp2_with (go_at_call 53; refine (hlk _).mono ?_; rintro e w' ⟨rfl, rfl⟩)
        go_round
        case rel => exact ⟨k + 1, by go_num, by omega, hg⟩
        case measure => simp [intOf]; omega
      | false =>
        have e : Hid (R = false) := by
          show _ = _
          rw [← hR.out]
          exact decide_eq_false fun hn => by have := hn.2 k hlt; rw [hA] at this; cases this
        rw [hA] at hlk
        clear hR hH hp hA
        generalize byteAt s k = b at *
        go_wp2_with (go_at_call 53; refine (hlk _).mono ?_; rintro e w' ⟨rfl, rfl⟩)
        go_ret
        exact ⟨by rw [e.out]; rfl, rfl⟩
    · have e : Hid (R = true) := by
        show _ = _
        rw [← hR.out]
        exact decide_eq_true ⟨by omega, fun j hj => hH.out j (by omega)⟩
      clear hR hH hp
      obtain rfl : k = s.size := by omega
      go_wp2
      go_ret
      exact ⟨by rw [e.out]; rfl, rfl⟩
end Go.Proofs.YtddmdieeljjamaaDoor
/-
  GOOD VALUES, whole: the program's and the reference's, by contract.
-/
namespace Go.Proofs.YtddmdieeljjamaaDoor
open Go.ChangeShapes Go.WideShapes Go.ChangeAt Go.RowKit

def emptyB (s : ByteArray) : Bool := s.toList == []
def goodV (k n : Int) (s : ByteArray) : Bool :=
  if k = 0 then n == 0 && emptyB s
  else if k = 1 then decide (-1000000000000 ≤ n) && decide (n ≤ 1000000000000) && emptyB s
  else if k = 2 then n == 0 && decide (s.size ≤ 100 ∧ plainS s)
  else false
set_option maxHeartbeats 1600000 in
theorem vgood_c (k n : Int) (s : ByteArray) (w : World) (hs : s.size ≤ 1000) : Calls Tryd.prog 27 #[.agg #[.int .i64 k, .int .i64 n, .string s]] w fun e w' => e = .returned (.bool (goodV k n s)) ∧ Below w.heap.size w w' := by
  have hg := fun w => goodtext_c s w hs
  obtain ⟨E, hE⟩ : ∃ E, (s.toList == ([] : List UInt8)) = E := ⟨_, rfl⟩
  have hE' : emptyB s = E := hE
  by_cases h0 : k = 0
  · subst h0
    by_cases hn : n = 0
    · subst hn
      rw [show goodV 0 0 s = E by simp [goodV, hE']]
      clear hE'
      go_enter Tryd.func27, Tryd.ntmps27
      go_wp2
      go_ret
      exact ⟨rfl, (Below.refl _ _).alloc (Nat.le_refl _) _⟩
    · rw [show goodV 0 n s = false by simp [goodV, hn]]
      have hn' : (n == 0) = false := by simpa using hn
      go_enter Tryd.func27, Tryd.ntmps27
      go_wp2
      go_ret
      exact ⟨rfl, (Below.refl _ _).alloc (Nat.le_refl _) _⟩
  have h0' : (k == 0) = false := by simpa using h0
  by_cases h1 : k = 1
  · subst h1
    by_cases ha : -1000000000000 ≤ n
    · by_cases hb : n ≤ 1000000000000
      · rw [show goodV 1 n s = E by simp [goodV, hE', ha, hb]]
        clear hE'
        go_enter Tryd.func27, Tryd.ntmps27
        go_wp2
        go_ret
        exact ⟨rfl, (Below.refl _ _).alloc (Nat.le_refl _) _⟩
      · rw [show goodV 1 n s = false by simp [goodV, hb]]
        go_enter Tryd.func27, Tryd.ntmps27
        go_wp2
        go_ret
        exact ⟨rfl, (Below.refl _ _).alloc (Nat.le_refl _) _⟩
    · rw [show goodV 1 n s = false by simp [goodV, ha]]
      go_enter Tryd.func27, Tryd.ntmps27
      go_wp2
      go_ret
      exact ⟨rfl, (Below.refl _ _).alloc (Nat.le_refl _) _⟩
  have h1' : (k == 1) = false := by simpa using h1
  by_cases h2 : k = 2
  · subst h2
    by_cases hn : n = 0
    · subst hn
      rw [show goodV 2 0 s = decide (s.size ≤ 100 ∧ plainS s) by simp [goodV]]
      clear hE hE'
      generalize decide (s.size ≤ 100 ∧ plainS s) = G at *
      go_enter Tryd.func27, Tryd.ntmps27
      go_wp2_with (go_at_call 42; refine (hg _).mono ?_; rintro e w' ⟨rfl, rfl⟩)
      go_ret
      exact ⟨rfl, (Below.refl _ _).alloc (Nat.le_refl _) _⟩
    · rw [show goodV 2 n s = false by simp [goodV, hn]]
      have hn' : (n == 0) = false := by simpa using hn
      go_enter Tryd.func27, Tryd.ntmps27
      go_wp2
      go_ret
      exact ⟨rfl, (Below.refl _ _).alloc (Nat.le_refl _) _⟩
  have h2' : (k == 2) = false := by simpa using h2
  rw [show goodV k n s = false by simp [goodV, h0, h1, h2]]
  clear h0 h1 h2
  go_enter Tryd.func27, Tryd.ntmps27
  go_wp2
  go_ret
  exact ⟨rfl, (Below.refl _ _).alloc (Nat.le_refl _) _⟩
end Go.Proofs.YtddmdieeljjamaaDoor
/-
  GOOD VALUES: the reference's, by contract.
-/
namespace Go.Proofs.YtddmdieeljjamaaDoor
open Go.ChangeShapes Go.WideShapes Go.ChangeAt Go.RowKit

theorem plainB_lo {b : Int} (h : b < 32) : plainB b = false := by unfold plainB; simp; omega
theorem plainB_hi {b : Int} (h : 126 < b) : plainB b = false := by unfold plainB; simp; omega
theorem plainB_mid {b : Int} (h : ¬ b < 32) (h2 : ¬ 126 < b) : plainB b = true := by unfold plainB; simp; omega
set_option maxHeartbeats 1600000 in
theorem rgood_c (k n : Int) (s : ByteArray) (w : World) (hs : s.size ≤ 1000) : Calls Tryd.prog 18 #[.agg #[.int .i64 k, .int .i64 n, .string s]] w fun e w' => e = .returned (.bool (goodV k n s)) ∧ Below w.heap.size w w' := by
  obtain ⟨E, hE⟩ : ∃ E, (s.toList == ([] : List UInt8)) = E := ⟨_, rfl⟩
  have hE' : emptyB s = E := hE
  have hB := (Below.refl w.heap.size w).alloc (Nat.le_refl _) (.cells #[.int .i64 k, .int .i64 n, .string s] 33)
  by_cases h0 : k = 0
  · subst h0
    by_cases hn : n = 0
    · subst hn
      rw [show goodV 0 0 s = E by simp [goodV, hE']]
      clear hE'
      go_enter Tryd.func18, Tryd.ntmps18
      go_wp2
      go_ret
      exact ⟨rfl, hB⟩
    · rw [show goodV 0 n s = false by simp [goodV, hn]]
      have hn' : (n == 0) = false := by simpa using hn
      go_enter Tryd.func18, Tryd.ntmps18
      go_wp2
      go_ret
      exact ⟨rfl, hB⟩
  have h0' : (k == 0) = false := by simpa using h0
  by_cases h1 : k = 1
  · subst h1
    cases E with
    | false =>
      rw [show goodV 1 n s = false by simp [goodV, hE']]
      clear hE'
      go_enter Tryd.func18, Tryd.ntmps18
      go_wp2
      go_ret
      exact ⟨rfl, hB⟩
    | true =>
      by_cases ha : -1000000000000 ≤ n
      · by_cases hb : n ≤ 1000000000000
        · rw [show goodV 1 n s = true by simp [goodV, hE', ha, hb]]
          clear hE'
          go_enter Tryd.func18, Tryd.ntmps18
          go_wp2
          go_ret
          exact ⟨rfl, hB⟩
        · rw [show goodV 1 n s = false by simp [goodV, hb]]
          clear hE'
          go_enter Tryd.func18, Tryd.ntmps18
          go_wp2
          go_ret
          exact ⟨rfl, hB⟩
      · rw [show goodV 1 n s = false by simp [goodV, ha]]
        clear hE'
        go_enter Tryd.func18, Tryd.ntmps18
        go_wp2
        go_ret
        exact ⟨rfl, hB⟩
  have h1' : (k == 1) = false := by simpa using h1
  clear hE hE'
  have hno : ¬ plainS s → Hid (goodV k n s = false) := fun h => by
    show _ = _
    simp [goodV, h0, h1, h]
  have hyes : plainS s → Hid (goodV k n s = (k == 2 && (n == 0 && decide (s.size < 101)))) := fun h => by
    show _ = _
    simp only [goodV, h0, h1, h, if_false, and_true]
    by_cases h2 : k = 2
    · subst h2; simp; congr 1; rw [Bool.eq_iff_iff]; simp; omega
    · simp [h2]
  generalize goodV k n s = R at *
  clear h0 h1
  go_enter Tryd.func18, Tryd.ntmps18
  go_wp2_with fail
  go_loop [3] (fun i => ∃ q : Nat, i = .int .i64 q ∧ q ≤ s.size ∧ Hid (∀ j, j < q → plainB (byteAt s j) = true)) (fun i => s.size - (intOf i).toNat)
  case atStart => exact ⟨0, rfl, Nat.zero_le _, fun j hj => by omega⟩
  case round =>
    obtain ⟨q, rfl, hq, hH⟩ := hrel
    by_cases hlt : q < s.size
    · have hbk := byteAt_eq hlt
      by_cases hlo : byteAt s q < 32
      · have e := hno fun h => by have := h q hlt; rw [plainB_lo hlo] at this; cases this
        clear hno hyes hH
        generalize byteAt s q = b at *
        go_wp2
        go_ret
        exact ⟨by rw [e.out]; rfl, hB⟩
      by_cases hhi : 126 < byteAt s q
      · have e := hno fun h => by have := h q hlt; rw [plainB_hi hhi] at this; cases this
        clear hno hyes hH
        generalize byteAt s q = b at *
        go_wp2
        go_ret
        exact ⟨by rw [e.out]; rfl, hB⟩
      have hg : Hid (∀ j, j < q + 1 → plainB (byteAt s j) = true) := fun j hj => by
        rcases Nat.lt_or_ge j q with h' | h'
        · exact hH.out j h'
        · obtain rfl : j = q := by omega
          exact plainB_mid hlo hhi
      clear hno hyes hH
      generalize byteAt s q = b at *
      go_wp2
      go_round
      case rel => exact ⟨q + 1, by go_num, by omega, hg⟩
      case measure => simp [intOf]; omega
    · have e := hyes fun j hj => hH.out j (by omega)
      clear hno hyes hH
      obtain rfl : q = s.size := by omega
      by_cases h2 : k = 2
      · subst h2
        by_cases hn : n = 0
        · subst hn
          go_wp2
          go_ret
          exact ⟨by rw [e.out]; simp <;> omega, hB⟩
        · have hn' : (n == 0) = false := by simpa using hn
          clear hn
          go_wp2
          go_ret
          exact ⟨by rw [e.out, hn']; rfl, hB⟩
      · have h2' : (k == 2) = false := by simpa using h2
        clear h2
        go_wp2
        go_ret
        exact ⟨by rw [e.out, h2']; rfl, hB⟩
end Go.Proofs.YtddmdieeljjamaaDoor
/-
  WHAT A TEXT BEGINS WITH: a value, or why none. Mathematics alone.
-/
namespace Go.Proofs.YtddmdieeljjamaaDoor
open Go.ChangeShapes Go.WideShapes Go.ChangeAt Go.RowKit

def isDig (b : Int) : Bool := decide (48 ≤ b) && decide (b ≤ 57)
/-- A byte that needs another one ahead. -/
def isSp (b : Int) : Bool := decide (b = 39) || decide (b = 92)
def ubyte (s : ByteArray) (k : Nat) : UInt8 := s.data.toList.getD k 0
theorem byteAt_u (s : ByteArray) (k : Nat) : byteAt s k = ((ubyte s k).toNat : Int) := rfl
/-- What is told: a value, how many bytes it has, a code. -/
structure RR where
  k : Int
  n : Int
  t : List UInt8
  m : Nat
  e : Int
def RR.bad (e : Int) : RR := ⟨0, 0, [], 0, e⟩
def tx (l : List UInt8) : ByteArray := ⟨l.toArray⟩
def RR.v (x : RR) : Value := .tuple #[.agg #[.int .i64 x.k, .int .i64 x.n, .string (tx x.t)], .int .i64 (x.m : Int), .int .i64 x.e]
def textS (s : ByteArray) : Nat → Nat → List UInt8 → RR
  | 0, _, _ => .bad 7
  | f + 1, i, out =>
    if i < s.size then
      if byteAt s i = 39 then ⟨2, 0, out, i + 1, 0⟩
      else if byteAt s i = 92 then
        if i + 1 < s.size then
          if isSp (byteAt s (i + 1)) then (if out.length = 100 then .bad 5 else textS s f (i + 2) (out ++ [ubyte s (i + 1)]))
          else .bad 2
        else .bad 7
      else if plainB (byteAt s i) then (if out.length = 100 then .bad 5 else textS s f (i + 1) (out ++ [ubyte s i]))
      else .bad 2
    else .bad 7
def numS (s : ByteArray) (neg : Bool) : Nat → Nat → Nat → RR
  | 0, i, n => ⟨1, if neg then -(n : Int) else n, [], i, 0⟩
  | f + 1, i, n =>
    if i < s.size ∧ isDig (byteAt s i) = true then
      (if 10 * n + ((byteAt s i).toNat - 48) ≤ 1000000000000 then numS s neg f (i + 1) (10 * n + ((byteAt s i).toNat - 48)) else .bad 5)
    else ⟨1, if neg then -(n : Int) else n, [], i, 0⟩
/-- The value with which a text begins. -/
def readS (s : ByteArray) : RR :=
  if s.size = 0 ∨ (s.size = 1 ∧ byteAt s 0 = 45) then .bad 7
  else if byteAt s 0 = 39 then textS s s.size 1 []
  else if byteAt s 0 = 45 then (if isDig (byteAt s 1) then numS s true s.size 1 0 else .bad 2)
  else if isDig (byteAt s 0) then numS s false s.size 0 0 else .bad 2
theorem text_end {s : ByteArray} {i : Nat} (h : ¬ i < s.size) : ∀ f out, textS s f i out = .bad 7
  | 0, _ => rfl
  | f + 1, out => by rw [textS, if_neg h]
theorem num_end {s : ByteArray} {neg : Bool} {i n : Nat} (h : ¬ (i < s.size ∧ isDig (byteAt s i) = true)) : ∀ f, numS s neg f i n = ⟨1, if neg then -(n : Int) else n, [], i, 0⟩
  | 0 => rfl
  | f + 1 => by rw [numS, if_neg h]
theorem isSp_plain {b : Int} (h : isSp b = true) : plainB b = true := by
  unfold isSp at h
  simp only [Bool.or_eq_true, decide_eq_true_eq] at h
  unfold plainB
  rcases h with rfl | rfl <;> rfl
/-- A text that is told is plain, and not too long. -/
theorem text_good (s : ByteArray) : ∀ f i out, (∀ u ∈ out, plainB ((u : UInt8).toNat : Int) = true) → out.length ≤ 100 → (textS s f i out).e = 0 → (textS s f i out).k = 2 ∧ (textS s f i out).n = 0 ∧ (∀ u ∈ (textS s f i out).t, plainB ((u : UInt8).toNat : Int) = true) ∧ (textS s f i out).t.length ≤ 100
  | 0, _, _, _, _, h => by cases h
  | f + 1, i, out, hp, hl, h => by
    rw [textS] at h ⊢
    split at h
    · rename_i h1
      rw [if_pos h1]
      split at h
      · rename_i h2
        rw [if_pos h2]
        exact ⟨rfl, rfl, hp, hl⟩
      · rename_i h2
        rw [if_neg h2]
        split at h
        · rename_i h3
          rw [if_pos h3]
          split at h
          · rename_i h4
            rw [if_pos h4]
            split at h
            · rename_i h5
              rw [if_pos h5]
              split at h
              · cases h
              · rename_i h6
                rw [if_neg h6]
                refine text_good s f _ _ (fun u hu => ?_) (by simp; omega) h
                rcases List.mem_append.1 hu with hu | hu
                · exact hp u hu
                · simp at hu; subst hu; rw [← byteAt_u]; exact isSp_plain h5
            · cases h
          · cases h
        · rename_i h3
          rw [if_neg h3]
          split at h
          · rename_i h4
            rw [if_pos h4]
            split at h
            · cases h
            · rename_i h6
              rw [if_neg h6]
              refine text_good s f _ _ (fun u hu => ?_) (by simp; omega) h
              rcases List.mem_append.1 hu with hu | hu
              · exact hp u hu
              · simp at hu; subst hu; rw [← byteAt_u]; exact h4
          · cases h
    · cases h
theorem num_good (s : ByteArray) (neg : Bool) : ∀ f i n, n ≤ 1000000000000 → (numS s neg f i n).e = 0 → (numS s neg f i n).k = 1 ∧ -1000000000000 ≤ (numS s neg f i n).n ∧ (numS s neg f i n).n ≤ 1000000000000 ∧ (numS s neg f i n).t = []
  | 0, _, n, hn, _ => by cases neg <;> simp [numS] <;> omega
  | f + 1, i, n, hn, h => by
    rw [numS] at h ⊢
    split at h
    · rename_i h1
      rw [if_pos h1]
      split at h
      · rename_i h2
        rw [if_pos h2]
        exact num_good s neg f _ _ h2 h
      · cases h
    · rename_i h1
      rw [if_neg h1]
      cases neg <;> simp <;> omega
theorem tx_size (l : List UInt8) : (tx l).size = l.length := by simp [tx, ByteArray.size]
theorem tx_byte (l : List UInt8) (k : Nat) : byteAt (tx l) k = ((l.getD k 0).toNat : Int) := by simp [byteAt, tx]
theorem good_text {l : List UInt8} (hp : ∀ u ∈ l, plainB ((u : UInt8).toNat : Int) = true) (hl : l.length ≤ 100) : goodV 2 0 (tx l) = true := by
  have h : (tx l).size ≤ 100 ∧ plainS (tx l) := ⟨by rw [tx_size]; exact hl, fun k hk => by
    rw [tx_size] at hk
    rw [tx_byte]
    refine hp _ ?_
    rw [List.getD_eq_getElem?_getD, List.getElem?_eq_getElem hk]
    exact List.getElem_mem hk⟩
  simp [goodV, h]
theorem good_num {n : Int} (h1 : -1000000000000 ≤ n) (h2 : n ≤ 1000000000000) : goodV 1 n (tx []) = true := by
  simp [goodV, h1, h2, emptyB, tx, Go.ByteArray.toList_eq]
/-- A value that is read is good. -/
theorem read_good (s : ByteArray) (h : (readS s).e = 0) : goodV (readS s).k (readS s).n (tx (readS s).t) = true := by
  have ht := text_good s s.size 1 [] (fun u hu => by cases hu) (by simp)
  have h1 := num_good s true s.size 1 0 (by omega)
  have h2 := num_good s false s.size 0 0 (by omega)
  have key : readS s = .bad 7 ∨ readS s = .bad 2 ∨ readS s = textS s s.size 1 [] ∨ readS s = numS s true s.size 1 0 ∨ readS s = numS s false s.size 0 0 := by
    unfold readS
    repeat' split
    all_goals simp
  rcases key with e | e | e | e | e <;> rw [e] at h ⊢
  · cases h
  · cases h
  · obtain ⟨a, b, c, d⟩ := ht h
    rw [a, b]; exact good_text c d
  · obtain ⟨a, b, c, d⟩ := h1 h
    rw [a, d]; exact good_num b c
  · obtain ⟨a, b, c, d⟩ := h2 h
    rw [a, d]; exact good_num b c
end Go.Proofs.YtddmdieeljjamaaDoor
