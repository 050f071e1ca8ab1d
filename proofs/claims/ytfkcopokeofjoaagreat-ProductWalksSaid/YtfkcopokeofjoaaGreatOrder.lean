/-
  PLACES IN THE ORDER OF THEIR KEYS: counting by one byte, byte after byte. No function is named here.
-/
import Derived.Test.YtfkcopokeofjoaaGreatRows
import Derived.Test.YtfkcopokeofjoaaGreatRec
import Derived.Lib.VarintBits
import Derived.Laws.BitsAllLaws
import Derived.Test.YtfkcopokeofjoaaGreatShelf
import Derived.Lib.ItoaNum
namespace Go.Proofs.YtfkcopokeofjoaaGreat

/-- The order of places: by key, and then by place. -/
def KeyLt (K : Nat → Nat) (p q : Nat) : Prop := K p < K q ∨ (K p = K q ∧ p < q)
/-- A row of all places below n, in order. -/
def Ordered (K : Nat → Nat) (n : Nat) (l : List Nat) : Prop := l.Pairwise (KeyLt K) ∧ ∀ p, p ∈ l ↔ p < n
theorem KeyLt.irrefl {K : Nat → Nat} {p q : Nat} (h : KeyLt K p q) : p ≠ q := by
  rintro rfl; rcases h with h | h <;> omega
theorem KeyLt.asymm {K : Nat → Nat} {p q : Nat} (h : KeyLt K p q) : ¬ KeyLt K q p := by
  rintro (h' | h') <;> rcases h with h | h <;> omega
theorem ordered_ext {K : Nat → Nat} : ∀ (l m : List Nat), l.Pairwise (KeyLt K) → m.Pairwise (KeyLt K) → (∀ p, p ∈ l ↔ p ∈ m) → l = m
  | [], [], _, _, _ => rfl
  | [], y :: m, _, _, h => by have := (h y).2 (by simp); cases this
  | x :: l, [], _, _, h => by have := (h x).1 (by simp); cases this
  | x :: l, y :: m, hl, hm, h => by
    have hl' := List.pairwise_cons.1 hl
    have hm' := List.pairwise_cons.1 hm
    have e : x = y := by
      rcases List.mem_cons.1 ((h x).1 (by simp)) with e | hx
      · exact e
      · rcases List.mem_cons.1 ((h y).2 (by simp)) with e | hy
        · exact e.symm
        · exact absurd (hm'.1 x hx) (hl'.1 y hy).asymm
    subst e
    rw [ordered_ext l m hl'.2 hm'.2 fun z => ?_]
    have hz := h z
    simp only [List.mem_cons] at hz
    constructor
    · intro hzl
      rcases hz.1 (.inr hzl) with rfl | h
      · exact absurd rfl (hl'.1 z hzl).irrefl
      · exact h
    · intro hzm
      rcases hz.2 (.inr hzm) with rfl | h
      · exact absurd rfl (hm'.1 z hzm).irrefl
      · exact h
theorem Ordered.unique {K : Nat → Nat} {n : Nat} {l m : List Nat} (hl : Ordered K n l) (hm : Ordered K n m) : l = m :=
  ordered_ext l m hl.1 hm.1 fun p => (hl.2 p).trans (hm.2 p).symm
theorem Ordered.perm {K : Nat → Nat} {n : Nat} {l : List Nat} (hl : Ordered K n l) : l.Perm (List.range n) := by
  refine (List.perm_ext_iff_of_nodup (hl.1.imp fun h => h.irrefl) List.nodup_range).2 fun p => ?_
  rw [hl.2, List.mem_range]
theorem Ordered.len {K : Nat → Nat} {n : Nat} {l : List Nat} (hl : Ordered K n l) : l.length = n := by
  have := hl.perm.length_eq; simpa using this
theorem ordered_start (n : Nat) : Ordered (fun _ => 0) n (List.range n) := by
  refine ⟨?_, fun p => List.mem_range⟩
  exact List.pairwise_lt_range.imp fun h => .inr ⟨rfl, h⟩

/-- Those of a row with one byte. -/
def part (d : Nat → Nat) (l : List Nat) (b : Nat) : List Nat := l.filter fun p => d p == b
def sorted (d : Nat → Nat) (l : List Nat) (m : Nat) : List Nat := (List.range m).flatMap (part d l)
def below (d : Nat → Nat) (l : List Nat) (b : Nat) : Nat := (sorted d l b).length
theorem below_zero (d : Nat → Nat) (l : List Nat) : below d l 0 = 0 := by simp [below, sorted]
theorem sorted_succ (d : Nat → Nat) (l : List Nat) (b : Nat) : sorted d l (b + 1) = sorted d l b ++ part d l b := by
  simp [sorted, List.range_succ, List.flatMap_append]
theorem below_succ (d : Nat → Nat) (l : List Nat) (b : Nat) : below d l (b + 1) = below d l b + (part d l b).length := by
  simp [below, sorted_succ]
theorem below_mono (d : Nat → Nat) (l : List Nat) {a b : Nat} (h : a ≤ b) : below d l a ≤ below d l b := by
  induction h with
  | refl => exact Nat.le_refl _
  | step h ih => rw [below_succ]; omega
theorem sorted_at (d : Nat → Nat) (l : List Nat) : ∀ m b j, b < m → j < (part d l b).length → (sorted d l m)[below d l b + j]? = (part d l b)[j]?
  | 0, b, j, h, _ => by omega
  | m + 1, b, j, h, hj => by
    rw [sorted_succ]
    by_cases hb : b < m
    · have h1 := below_mono d l (a := b + 1) (b := m) hb
      rw [below_succ] at h1
      rw [List.getElem?_append_left (by show _ < below d l m; omega)]
      exact sorted_at d l m b j hb hj
    · obtain rfl : b = m := by omega
      rw [List.getElem?_append_right (by show below d l b ≤ _; omega)]
      congr 1
      show below d l b + j - below d l b = j
      omega
theorem mem_part {d : Nat → Nat} {l : List Nat} {b p : Nat} : p ∈ part d l b ↔ p ∈ l ∧ d p = b := by simp [part]
theorem mem_sorted {d : Nat → Nat} {l : List Nat} {m p : Nat} : p ∈ sorted d l m ↔ p ∈ l ∧ d p < m := by
  simp only [sorted, List.mem_flatMap, List.mem_range, mem_part]
  constructor
  · rintro ⟨b, hb, hp, rfl⟩; exact ⟨hp, hb⟩
  · rintro ⟨hp, hb⟩; exact ⟨_, hb, hp, rfl⟩
/-- A place of the row lies within some part. -/
theorem place_of (d : Nat → Nat) (l : List Nat) : ∀ m i, i < below d l m → ∃ b j, b < m ∧ j < (part d l b).length ∧ i = below d l b + j
  | 0, i, h => by rw [below_zero] at h; omega
  | m + 1, i, h => by
    rw [below_succ] at h
    by_cases hi : i < below d l m
    · obtain ⟨b, j, h1, h2, h3⟩ := place_of d l m i hi
      exact ⟨b, j, by omega, h2, h3⟩
    · exact ⟨m, i - below d l m, by omega, by omega, by omega⟩
theorem sorted_pairwise {K : Nat → Nat} {d : Nat → Nat} {w : Nat} {l : List Nat} (hK : ∀ p ∈ l, K p < w) (h : l.Pairwise (KeyLt K)) (m : Nat) :
    (sorted d l m).Pairwise (KeyLt fun p => d p * w + K p) := by
  have hlt : ∀ p q, p ∈ l → q ∈ l → d p < d q → d p * w + K p < d q * w + K q := fun p q hp _ hd => by
    have h1 := hK p hp
    have h2 : (d p + 1) * w ≤ d q * w := Nat.mul_le_mul_right _ hd
    rw [Nat.add_mul] at h2
    omega
  unfold sorted
  rw [List.pairwise_flatMap]
  constructor
  · intro b hb
    refine ((h.filter _).imp_of_mem ?_ : (part d l b).Pairwise _)
    intro p q hp hq hpq
    have h1 := (mem_part.1 hp).2
    have h2 := (mem_part.1 hq).2
    rcases hpq with h' | ⟨h', h''⟩
    · exact .inl (by show d p * w + K p < d q * w + K q; rw [h1, h2]; omega)
    · exact .inr ⟨by show d p * w + K p = d q * w + K q; rw [h1, h2, h'], h''⟩
  · refine List.pairwise_lt_range.imp fun {a b} hab x hx y hy => ?_
    obtain ⟨hx1, hx2⟩ := mem_part.1 hx
    obtain ⟨hy1, hy2⟩ := mem_part.1 hy
    exact .inl (hlt x y hx1 hy1 (by omega))
/-- One pass: a row in the order of what keys are modulo w becomes one in the order of what they are modulo 256 w. -/
theorem pass_ordered {key : Nat → Nat} {n w : Nat} (hw : 0 < w) {l : List Nat} (h : Ordered (fun p => key p % w) n l) :
    Ordered (fun p => key p % (w * 256)) n (sorted (fun p => key p / w % 256) l 256) := by
  have e : (fun p => key p / w % 256 * w + key p % w) = fun p => key p % (w * 256) := by
    funext p
    rw [Nat.mod_mul, Nat.mul_comm w, Nat.add_comm]
  refine ⟨?_, fun p => ?_⟩
  · have := sorted_pairwise (d := fun p => key p / w % 256) (w := w) (K := fun p => key p % w) (fun p _ => Nat.mod_lt _ hw) h.1 256
    rwa [e] at this
  · rw [mem_sorted, h.2]
    exact ⟨fun h => h.1, fun h => ⟨h, Nat.mod_lt _ (by decide)⟩⟩
theorem part_perm {d : Nat → Nat} {l m : List Nat} (h : l.Perm m) (b : Nat) : (part d l b).length = (part d m b).length := (h.filter _).length_eq
theorem below_perm {d : Nat → Nat} {l m : List Nat} (h : l.Perm m) : ∀ b, below d l b = below d m b
  | 0 => by rw [below_zero, below_zero]
  | b + 1 => by rw [below_succ, below_succ, below_perm h b, part_perm h b]
theorem below_all {d : Nat → Nat} (hd : ∀ p, d p < 256) (l : List Nat) : below d l 256 = l.length := by
  induction l with
  | nil => 
    have : ∀ b, below d [] b = 0 := fun b => by
      induction b with
      | zero => exact below_zero _ _
      | succ b ih => rw [below_succ, ih]; rfl
    rw [this]; rfl
  | cons x l ih =>
    have : ∀ b, below d (x :: l) b = below d l b + if d x < b then 1 else 0 := fun b => by
      induction b with
      | zero => rw [below_zero, below_zero]; simp
      | succ b ih =>
        rw [below_succ, below_succ, ih]
        by_cases h : d x = b
        · have e : part d (x :: l) b = x :: part d l b := by simp [part, h]
          rw [e, List.length_cons, if_neg (by omega), if_pos (by omega)]; omega
        · have e : part d (x :: l) b = part d l b := by simp [part, h]
          rw [e]
          by_cases h2 : d x < b
          · rw [if_pos h2, if_pos (by omega)]; omega
          · rw [if_neg h2, if_neg (by omega)]; omega
    rw [this, if_pos (hd x), ih, List.length_cons]
end Go.Proofs.YtfkcopokeofjoaaGreat
/-
  ONE PASS OF THE PROGRAM's ORDER: places laid by one byte of their keys, by contract.
-/
namespace Go.Proofs.YtfkcopokeofjoaaGreat
open Go.ChangeShapes Go.WideShapes Go.ChangeAt Go.RowKit

def keyOf (keys : List Int) (p : Nat) : Nat := (keys.getD p 0).toNat
def byteOf (keys : List Int) (sh p : Nat) : Nat := keyOf keys p / 2 ^ sh % 256
def natsV (l : List Nat) : List Value := l.map fun (p : Nat) => Value.int .i64 (p : Int)
def cellsOf (f : Nat → Nat) : List Value := (List.range 257).map fun (i : Nat) => Value.int .i64 (f i : Int)
theorem cellsOf_len (f : Nat → Nat) : (cellsOf f).length = 257 := by simp [cellsOf]
theorem cellsOf_at (f : Nat → Nat) {i : Nat} (hi : i < 257) : (cellsOf f)[i]? = some (.int .i64 (f i)) := by
  simp [cellsOf, hi]
theorem cellsOf_set {f g : Nat → Nat} {j v : Nat} (hj : g j = v) (h : ∀ i, i < 257 → i ≠ j → g i = f i) : (cellsOf f).set j (.int .i64 (v : Int)) = cellsOf g := by
  apply List.ext_getElem?
  intro i
  rw [List.getElem?_set, cellsOf_len]
  by_cases hi : i < 257
  · rw [cellsOf_at f hi, cellsOf_at g hi]
    by_cases hij : j = i
    · subst hij; rw [if_pos rfl, if_pos hi, hj]
    · rw [if_neg hij, h i hi (fun e => hij e.symm)]
  · rw [List.getElem?_eq_none (l := cellsOf f) (by rw [cellsOf_len]; omega), List.getElem?_eq_none (l := cellsOf g) (by rw [cellsOf_len]; omega)]
    split
    · rw [if_neg (by omega)]
    · rfl
theorem cellsOf_congr {f g : Nat → Nat} (h : ∀ i, i < 257 → f i = g i) : cellsOf f = cellsOf g := by
  unfold cellsOf
  apply List.map_congr_left
  intro i hi
  rw [h i (List.mem_range.1 hi)]
theorem part_range_succ (d : Nat → Nat) (k b : Nat) : (part d (List.range (k + 1)) b).length = (part d (List.range k) b).length + if d k = b then 1 else 0 := by
  unfold part
  rw [List.range_succ, List.filter_append, List.length_append]
  by_cases h : d k = b <;> simp [h]
theorem part_take_succ (d : Nat → Nat) (l : List Nat) (k b : Nat) (hk : k < l.length) : part d (l.take (k + 1)) b = part d (l.take k) b ++ if d (l.getD k 0) = b then [l.getD k 0] else [] := by
  have : l.take (k + 1) = l.take k ++ [l.getD k 0] := by rw [List.take_add_one, List.getElem?_eq_getElem hk]; simp [List.getD, hk]
  unfold part
  rw [this, List.filter_append]
  by_cases h : d (l.getD k 0) = b
  · rw [if_pos h, List.filter_cons_of_pos (by simpa using h)]; rfl
  · rw [if_neg h, List.filter_cons_of_neg (by simpa using h)]; rfl
theorem byteOf_lt (keys : List Int) (sh p : Nat) : byteOf keys sh p < 256 := Nat.mod_lt _ (by decide)

theorem zero_starts (w : World) : Sem.run Tryz.prog (zeroValue 143) w = .ok (.agg (cellsOf fun _ => 0).toArray) w := by kernel_rfl
/-- What the loops have counted. -/
def cnt1 (d : Nat → Nat) (k i : Nat) : Nat := if i = 0 then 0 else (part d (List.range k) (i - 1)).length
def cnt2 (d : Nat → Nat) (n k i : Nat) : Nat := if i ≤ k then Go.Proofs.YtfkcopokeofjoaaGreat.below d (List.range n) i else (part d (List.range n) (i - 1)).length
def cnt3 (d : Nat → Nat) (n : Nat) (l : List Nat) (b : Nat) : Nat := Go.Proofs.YtfkcopokeofjoaaGreat.below d (List.range n) b + (part d l b).length
theorem cnt1_step (d : Nat → Nat) (k : Nat) : (cellsOf (cnt1 d k)).set (d k + 1) (.int .i64 ((cnt1 d k (d k + 1) : Nat) + 1 : Int)) = cellsOf (cnt1 d (k + 1)) := by
  refine cellsOf_set (v := cnt1 d k (d k + 1) + 1) ?_ fun i _ hne => ?_
  · simp [cnt1, part_range_succ]
  · unfold cnt1
    split
    · rfl
    · rw [part_range_succ, if_neg (by omega)]; rfl
theorem cnt2_step (d : Nat → Nat) (n k : Nat) : (cellsOf (cnt2 d n k)).set (k + 1) (.int .i64 ((cnt2 d n k (k + 1) : Nat) + (cnt2 d n k k : Nat) : Int)) = cellsOf (cnt2 d n (k + 1)) := by
  refine cellsOf_set (v := cnt2 d n k (k + 1) + cnt2 d n k k) ?_ fun i _ hne => ?_
  · unfold cnt2
    rw [if_pos (Nat.le_refl (k + 1)), if_neg (show ¬ k + 1 ≤ k by omega), if_pos (Nat.le_refl k), below_succ, Nat.add_sub_cancel, Nat.add_comm]
  · unfold cnt2
    by_cases h : i ≤ k
    · rw [if_pos h, if_pos (by omega)]
    · rw [if_neg h, if_neg (by omega)]
theorem cnt2_start (d : Nat → Nat) (n : Nat) : cellsOf (cnt1 d n) = cellsOf (cnt2 d n 0) := cellsOf_congr fun i _ => by
  unfold cnt1 cnt2
  by_cases h : i = 0
  · subst h; simp [below_zero]
  · rw [if_neg h, if_neg (by omega)]
theorem cnt3_start (d : Nat → Nat) (n : Nat) : cellsOf (cnt2 d n 256) = cellsOf (cnt3 d n []) := cellsOf_congr fun i hi => by
  unfold cnt2 cnt3
  rw [if_pos (by omega)]; rfl
theorem cnt3_step (d : Nat → Nat) (n : Nat) (l : List Nat) (k : Nat) (hk : k < l.length) : (cellsOf (cnt3 d n (l.take k))).set (d (l.getD k 0)) (.int .i64 ((cnt3 d n (l.take k) (d (l.getD k 0)) : Nat) + 1 : Int)) = cellsOf (cnt3 d n (l.take (k + 1))) := by
  refine cellsOf_set (v := cnt3 d n (l.take k) (d (l.getD k 0)) + 1) ?_ fun i _ hne => ?_
  · unfold cnt3; rw [part_take_succ d l k _ hk, if_pos rfl, List.length_append]; rfl
  · unfold cnt3; rw [part_take_succ d l k _ hk, if_neg (fun e => hne e.symm), List.append_nil]
/-- Where the next place of a byte goes. -/
theorem cnt3_lt {d : Nat → Nat} {n : Nat} {l : List Nat} (hd : ∀ p, d p < 256) (hl : l.Perm (List.range n)) {k : Nat} (hk : k < l.length) :
    cnt3 d n (l.take k) (d (l.getD k 0)) < n ∧ ∀ b, b < 256 → cnt3 d n (l.take k) b ≤ Go.Proofs.YtfkcopokeofjoaaGreat.below d (List.range n) (b + 1) := by
  have hpre : ∀ m b, (part d (l.take m) b).length ≤ (part d (List.range n) b).length := fun m b => by
    rw [← part_perm hl b]
    exact (List.Sublist.filter _ (List.take_sublist m l)).length_le
  have hall : Go.Proofs.YtfkcopokeofjoaaGreat.below d (List.range n) 256 = n := by rw [below_all hd]; simp
  constructor
  · have h1 := hpre (k + 1) (d (l.getD k 0))
    rw [part_take_succ d l k _ hk, if_pos rfl, List.length_append] at h1
    have h2 := below_mono d (List.range n) (a := d (l.getD k 0) + 1) (b := 256) (hd _)
    rw [below_succ, hall] at h2
    unfold cnt3
    simp only [List.length_cons, List.length_nil] at h1
    omega
  · intro b hb
    have h1 := hpre k b
    unfold cnt3
    rw [below_succ]
    omega
/-- What the row holds of which so many places are laid. -/
def Laid (d : Nat → Nat) (n : Nat) (l : List Nat) (ts : List Value) : Prop :=
  ∀ (b j p : Nat), b < 256 → (part d l b)[j]? = some p → ts[Go.Proofs.YtfkcopokeofjoaaGreat.below d (List.range n) b + j]? = some (.int .i64 (p : Int))
theorem laid_step {d : Nat → Nat} {n : Nat} {l : List Nat} (hd : ∀ p, d p < 256) (hl : l.Perm (List.range n)) {k : Nat} (hk : k < l.length) {ts : List Value} (htl : ts.length = n) (h : Laid d n (l.take k) ts) :
    Laid d n (l.take (k + 1)) (ts.set (cnt3 d n (l.take k) (d (l.getD k 0))) (.int .i64 (l.getD k 0 : Nat))) := by
  intro b j p hb hp
  obtain ⟨hlt, hle⟩ := cnt3_lt hd hl hk
  rw [part_take_succ d l k b hk] at hp
  rw [List.getElem?_set, htl, if_pos hlt]
  by_cases hbe : d (l.getD k 0) = b
  · rw [if_pos hbe] at hp
    rcases Nat.lt_or_ge j (part d (l.take k) b).length with hj | hj
    · rw [List.getElem?_append_left hj] at hp
      rw [if_neg (by unfold cnt3; rw [hbe]; omega)]
      exact h b j p hb hp
    · rw [List.getElem?_append_right hj] at hp
      have hj2 : j = (part d (l.take k) b).length := by
        have := (List.getElem?_eq_some_iff.1 hp).1
        simp only [List.length_cons, List.length_nil] at this
        omega
      subst hj2
      simp only [Nat.sub_self, List.getElem?_cons_zero, Option.some.injEq] at hp
      rw [if_pos (by unfold cnt3; rw [hbe]), hp]
  · rw [if_neg hbe, List.append_nil] at hp
    have hj := (List.getElem?_eq_some_iff.1 hp).1
    rw [if_neg]
    · exact h b j p hb hp
    · intro e
      have h1 : cnt3 d n (l.take k) (d (l.getD k 0)) = Go.Proofs.YtfkcopokeofjoaaGreat.below d (List.range n) b + j := e
      have h2 := hle b hb
      unfold cnt3 at h2
      have h3 : Go.Proofs.YtfkcopokeofjoaaGreat.below d (List.range n) (d (l.getD k 0)) ≤ cnt3 d n (l.take k) (d (l.getD k 0)) := by unfold cnt3; omega
      have h4 : cnt3 d n (l.take (k + 1)) (d (l.getD k 0)) ≤ Go.Proofs.YtfkcopokeofjoaaGreat.below d (List.range n) (d (l.getD k 0) + 1) := by
        have hpre : (part d (l.take (k + 1)) (d (l.getD k 0))).length ≤ (part d (List.range n) (d (l.getD k 0))).length := by
          rw [← part_perm hl _]
          exact (List.Sublist.filter _ (List.take_sublist _ l)).length_le
        unfold cnt3
        rw [below_succ]
        omega
      have h5 : cnt3 d n (l.take (k + 1)) (d (l.getD k 0)) = cnt3 d n (l.take k) (d (l.getD k 0)) + 1 := by
        unfold cnt3; rw [part_take_succ d l k _ hk, if_pos rfl, List.length_append]; rfl
      have h6 : Go.Proofs.YtfkcopokeofjoaaGreat.below d (List.range n) b + j < Go.Proofs.YtfkcopokeofjoaaGreat.below d (List.range n) (b + 1) := by
        have : (part d (l.take k) b).length ≤ (part d (List.range n) b).length := by
          rw [← part_perm hl b]
          exact (List.Sublist.filter _ (List.take_sublist _ l)).length_le
        rw [below_succ]
        omega
      rcases Nat.lt_or_ge (d (l.getD k 0)) b with h7 | h7
      · have := below_mono d (List.range n) (a := d (l.getD k 0) + 1) (b := b) h7
        omega
      · have := below_mono d (List.range n) (a := b + 1) (b := d (l.getD k 0)) (by omega)
        omega
theorem laid_all {d : Nat → Nat} {n : Nat} {l : List Nat} (hd : ∀ p, d p < 256) (hl : l.Perm (List.range n)) {ts : List Value} (htl : ts.length = n) (h : Laid d n l ts) : ts = natsV (sorted d l 256) := by
  have hall : Go.Proofs.YtfkcopokeofjoaaGreat.below d l 256 = n := by rw [below_all hd, hl.length_eq]; simp
  apply List.ext_getElem?
  intro i
  by_cases hi : i < n
  · obtain ⟨b, j, hb, hj, rfl⟩ := place_of d l 256 i (by omega)
    have h1 := h b j _ hb (List.getElem?_eq_getElem hj)
    rw [← below_perm hl] at h1
    rw [h1, natsV, List.getElem?_map, sorted_at d l 256 b j hb hj, List.getElem?_eq_getElem hj]; rfl
  · rw [List.getElem?_eq_none (by omega), List.getElem?_eq_none]
    rw [natsV, List.length_map]
    show Go.Proofs.YtfkcopokeofjoaaGreat.below d l 256 ≤ i
    omega
theorem getD_some {l : List Int} {p : Nat} (h : p < l.length) : l[p]? = some (l.getD p 0) := by rw [List.getElem?_eq_getElem h]; simp [List.getD, h]
theorem getD_mem {l : List Int} {p : Nat} (h : p < l.length) : l.getD p 0 ∈ l := List.mem_of_getElem? (getD_some h)
theorem grown_set {w wr : World} {g b c : Nat} {u : Value} (h : w.grownBy wr (some g)) (hb : b = g ∨ w.heap.size ≤ b) : w.grownBy (wr.setCell ⟨b, c, none⟩ u) (some g) := by
  refine ⟨h.os, h.tape, h.output, by simpa using h.size, fun k hk hne => ?_⟩
  rw [Below.heap_setCell wr _ u k (fun e => by
    have e : k = b := e
    rcases hb with rfl | hb
    · exact hne (by rw [e])
    · omega)]
  exact h.block k hk hne
theorem part_le (d : Nat → Nat) (l : List Nat) (b : Nat) : (part d l b).length ≤ l.length := List.length_filter_le _ _
theorem cnt1_le (d : Nat → Nat) (k i : Nat) : cnt1 d k i ≤ k := by
  unfold cnt1
  split
  · exact Nat.zero_le _
  · have := part_le d (List.range k) (i - 1); simpa using this
theorem byte_int {z : Int} (h0 : 0 ≤ z) (sh : Nat) : z / 2 ^ sh % 256 = ((z.toNat / 2 ^ sh % 256 : Nat) : Int) := by
  have e : z = (z.toNat : Int) := (Int.toNat_of_nonneg h0).symm
  rw [e]; simp
theorem starts_owned (w : World) : (w.alloc (.cells (cellsOf fun _ => 0).toArray 143)).ownsRow w.heap.size 143 1 (.slice (some ⟨w.heap.size, 0, none⟩) 257 257) 257 (cellsOf fun _ => 0) :=
  World.ownsRow_lit w (cellsOf fun _ => 0).toArray 257 (Nat.le_refl _) (by decide) (by simp [cellsOf])

set_option maxHeartbeats 1600000 in
set_option maxRecDepth 1000000 in
theorem pass_c (vk vf : Value) (keys : List Int) (l : List Nat) (sh g cap n : Nat) (ys : List Value) (w : World) (hk : Holds w vk (keys.map (Value.int .u64))) (hf : Holds w vf (natsV l))
    (ht : w.ownsRow 0 3 1 (.slice (some ⟨g, 0, none⟩) n cap) n ys) (hne : vf.ownBlock ≠ some g) (hke : vk.ownBlock ≠ some g) (hn : n = keys.length) (hn1 : n ≤ 1000) (hl : l.Perm (List.range n)) (hsh : sh ≤ 63)
    (hwf : ∀ z ∈ keys, (Lit.int .u64 z).wf = true) :
    Calls Tryz.prog 54 #[vk, vf, .slice (some ⟨g, 0, none⟩) n cap, .int .i64 sh] w fun e w' => e = .returned (.tuple #[]) ∧ w.grownBy w' (some g) ∧
      w'.ownsRow 0 3 1 (.slice (some ⟨g, 0, none⟩) n cap) n (natsV (sorted (byteOf keys sh) l 256)) := by
  obtain ⟨ak, ck, rfl, hrk⟩ := hk
  obtain ⟨af, cf, rfl, hrf⟩ := hf
  have hll : l.length = n := by simpa using hl.length_eq
  subst hn
  rw [List.length_map]
  rw [show (natsV l).length = keys.length by simp [natsV, hll]]
  have hz := fun w => zero_starts w
  have hst := starts_owned w
  generalize hZ : (cellsOf fun _ => 0).toArray = Z at *
  clear hZ
  go_enter Tryz.func54, Tryz.ntmps54
  go_wp2
  generalize hD : byteOf keys sh = D at *
  go_loopw [17] (fun i wr => ∃ k : Nat, k ≤ keys.length ∧ i = .int .i64 k ∧ wr.ownsRow w.heap.size 143 1 (.slice (some ⟨w.heap.size, 0, none⟩) 257 257) 257 (cellsOf (cnt1 D k)) ∧ Below w.heap.size w wr)
    (fun i _ => keys.length - (intOf i).toNat)
  case atStart =>
    refine ⟨0, Nat.zero_le _, rfl, ?_, (Below.refl _ _).alloc (Nat.le_refl _) _⟩
    rw [show cellsOf (cnt1 D 0) = cellsOf (fun _ => 0) from cellsOf_congr fun i _ => by unfold cnt1; split <;> rfl]
    exact hst
  case round =>
    obtain ⟨k, hk, rfl, hown, hnx⟩ := hrel
    by_cases hlt : k < keys.length
    · obtain ⟨bk, ok, rfl, hbk, hck⟩ : ∃ b off, ak = some ⟨b, off, none⟩ ∧ b < w.heap.size ∧ w.cell? ⟨b, off + k, none⟩ = some (.int .u64 (keys.getD k 0)) := by
        rcases hrk with h0 | ⟨b, off, rfl, hb, hc⟩
        · simp only [List.map_eq_nil_iff] at h0; subst h0; simp at hlt
        · exact ⟨b, off, rfl, hb, hc k _ (by simp [hlt])⟩
      have hckr : wr.cell? ⟨bk, ok + k, none⟩ = some (.int .u64 (keys.getD k 0)) := (hnx.cell (by exact hbk)).trans hck
      have hz0 := (bounds_u64 (hwf (keys.getD k 0) (by simp [List.getD, hlt]))).1
      have hzD : keys.getD k 0 / 2 ^ sh % 256 = ((D k : Nat) : Int) := by rw [byte_int hz0, ← hD]; rfl
      have hd : D k < 256 := by rw [← hD]; exact byteOf_lt _ _ _
      have hcell : wr.cell? ⟨w.heap.size, D k + 1, none⟩ = some (.int .i64 (cnt1 D k (D k + 1) : Nat)) := by
        rw [hown.cellAt (D k + 1) (by omega), cellsOf_at _ (by omega)]
      have hfr : wr.frozen? ⟨w.heap.size, D k + 1, none⟩ = false := hown.frozenAt (D k + 1)
      have hst := hown.stored (D k + 1) (.int .i64 ((cnt1 D k (D k + 1) : Nat) + 1 : Int))
      rw [cnt1_step] at hst
      have hle := cnt1_le D k (D k + 1)
      have hto : (((D k : Nat) : Int) + 1).toNat = D k + 1 := by omega
      have hcb : cnt1 D k (D k + 1) ≤ 1000 := by omega
      clear hck
      generalize keys.getD k 0 = z at *
      generalize cnt1 D k (D k + 1) = c at *
      generalize D k = d at *
      go_wp2
      go_roundw
      case rel => exact ⟨k + 1, by omega, by go_num, hst.1, hnx.setCell (Nat.le_refl _) _⟩
      case measure => simp [intOf]; omega
    · obtain rfl : k = keys.length := by omega
      rw [cnt2_start] at hown
      have hD1 : ∀ p, D p < 256 := fun p => by rw [← hD]; exact byteOf_lt _ _ _
      clear hst
      go_wp2
      go_loopw [32] (fun i wr => ∃ k : Nat, k ≤ 256 ∧ i = .int .i64 k ∧ wr.ownsRow w.heap.size 143 1 (.slice (some ⟨w.heap.size, 0, none⟩) 257 257) 257 (cellsOf (cnt2 D keys.length k)) ∧ Below w.heap.size w wr)
        (fun i _ => 256 - (intOf i).toNat)
      case atStart => exact ⟨0, Nat.zero_le _, rfl, hown, hnx⟩
      case round =>
        clear hown hnx
        obtain ⟨k, hk, rfl, hown, hnx⟩ := hrel
        by_cases hlt : k < 256
        · have hc0 : wr.cell? ⟨w.heap.size, k, none⟩ = some (.int .i64 (cnt2 D keys.length k k : Nat)) := by rw [hown.cellAt k (by omega), cellsOf_at _ (by omega)]
          have hc1 : wr.cell? ⟨w.heap.size, k + 1, none⟩ = some (.int .i64 (cnt2 D keys.length k (k + 1) : Nat)) := by rw [hown.cellAt (k + 1) (by omega), cellsOf_at _ (by omega)]
          have hfr : wr.frozen? ⟨w.heap.size, k + 1, none⟩ = false := hown.frozenAt (k + 1)
          have hst := hown.stored (k + 1) (.int .i64 ((cnt2 D keys.length k (k + 1) : Nat) + (cnt2 D keys.length k k : Nat) : Int))
          rw [cnt2_step] at hst
          have hb0 : cnt2 D keys.length k k ≤ 1000 := by
            unfold cnt2
            rw [if_pos (Nat.le_refl _)]
            have := below_mono D (List.range keys.length) (a := k) (b := 256) (by omega)
            rw [below_all hD1, List.length_range] at this
            omega
          have hb1 : cnt2 D keys.length k (k + 1) ≤ 1000 := by
            unfold cnt2
            rw [if_neg (by omega)]
            have := part_le D (List.range keys.length) (k + 1 - 1)
            rw [List.length_range] at this
            omega
          generalize cnt2 D keys.length k k = c0 at *
          generalize cnt2 D keys.length k (k + 1) = c1 at *
          go_wp2
          go_region
          go_wp2
          go_roundw
          case rel => exact ⟨k + 1, by omega, by go_num, hst.1, hnx.drew.setCell (Nat.le_refl _) _⟩
          case measure => simp [intOf]; omega
        · obtain rfl : k = 256 := by omega
          rw [cnt3_start] at hown
          have hgl := (ht.lt g rfl).2
          have hgne : g ≠ w.heap.size := by omega
          have hg0 : w.grownBy wr (some g) := ⟨hnx.os, hnx.tape, hnx.output, hnx.size, fun k hk _ => hnx.block k hk⟩
          have ht0 : wr.ownsRow 0 3 1 (.slice (some ⟨g, 0, none⟩) keys.length cap) keys.length ys := by
            refine ⟨ht.1, ?_⟩
            rcases ht.2 with h | ⟨g', cap', cur, h1, h2, h3, h4⟩
            · exact .inl h
            · cases h1
              exact .inr ⟨_, _, cur, rfl, h2, (hnx.block _ hgl).trans h3, h4⟩
          have hys : ys.length = keys.length := by simpa using ht.1
          go_wp2
          go_loopw [47] (fun i wr => ∃ k : Nat, ∃ ts : List Value, k ≤ keys.length ∧ i = .int .i64 k ∧ ts.length = keys.length ∧ Hid (Laid D keys.length (l.take k) ts) ∧ wr.ownsRow w.heap.size 143 1 (.slice (some ⟨w.heap.size, 0, none⟩) 257 257) 257 (cellsOf (cnt3 D keys.length (l.take k))) ∧
              wr.ownsRow 0 3 1 (.slice (some ⟨g, 0, none⟩) keys.length cap) keys.length ts ∧ w.grownBy wr (some g))
            (fun i _ => keys.length - (intOf i).toNat)
          case atStart => exact ⟨0, ys, Nat.zero_le _, rfl, hys, (fun b j p _ h => by simp [part] at h), by rw [List.take_zero]; exact hown, ht0, hg0⟩
          case round =>
            clear hown hnx hg0 ht0
            obtain ⟨k, ts, hk, rfl, htl, hlaid, hown, ht, hg⟩ := hrel
            by_cases hlt : k < keys.length
            · obtain ⟨bf, of, rfl, hbf, hcf⟩ : ∃ b off, af = some ⟨b, off, none⟩ ∧ b < w.heap.size ∧ w.cell? ⟨b, off + k, none⟩ = some (.int .i64 (l.getD k 0 : Nat)) := by
                rcases hrf with h0 | ⟨b, off, rfl, hb, hc⟩
                · simp only [natsV, List.map_eq_nil_iff] at h0; subst h0; simp at hll; omega
                · exact ⟨b, off, rfl, hb, hc k _ (by simp [natsV, show k < l.length by omega])⟩
              have hlk : k < l.length := by omega
              have hpm : l.getD k 0 < keys.length := by
                have : l.getD k 0 ∈ List.range keys.length := hl.subset (by simp [List.getD, hlk])
                exact List.mem_range.1 this
              obtain ⟨bk, ok, rfl, hbk, hck⟩ : ∃ b off, ak = some ⟨b, off, none⟩ ∧ b < w.heap.size ∧ w.cell? ⟨b, off + l.getD k 0, none⟩ = some (.int .u64 (keys.getD (l.getD k 0) 0)) := by
                rcases hrk with h0 | ⟨b, off, rfl, hb, hc⟩
                · simp only [List.map_eq_nil_iff] at h0; subst h0; simp at hpm
                · exact ⟨b, off, rfl, hb, hc _ _ (by rw [List.getElem?_map, getD_some hpm]; rfl)⟩
              have hcf' : wr.cell? ⟨bf, of + k, none⟩ = some (.int .i64 (l.getD k 0 : Nat)) := hg.cell hcf (fun e => hne e)
              have hck' : wr.cell? ⟨bk, ok + l.getD k 0, none⟩ = some (.int .u64 (keys.getD (l.getD k 0) 0)) := hg.cell hck (fun e => hke e)
              have hz0 := (bounds_u64 (hwf _ (getD_mem hpm))).1
              have hzD : keys.getD (l.getD k 0) 0 / 2 ^ sh % 256 = ((D (l.getD k 0) : Nat) : Int) := by rw [byte_int hz0, ← hD]; rfl
              have hlaid2 : Hid _ := laid_step hD1 hl hlk htl hlaid.out
              obtain ⟨hc1, hc2⟩ := cnt3_lt (n := keys.length) hD1 hl hlk
              have hst1 := ht.stored (cnt3 D keys.length (l.take k) (D (l.getD k 0))) (.int .i64 (l.getD k 0 : Nat))
              have hown2 := ownsRow_setCell_other hown (a := ⟨g, cnt3 D keys.length (l.take k) (D (l.getD k 0)), none⟩) (by simp [Value.ownBlock]; omega) (.int .i64 (l.getD k 0 : Nat))
              have hst2 := hown2.stored (D (l.getD k 0)) (.int .i64 ((cnt3 D keys.length (l.take k) (D (l.getD k 0)) : Nat) + 1 : Int))
              have hstep := cnt3_step D keys.length l k hlk
              have hset : (ts.set (cnt3 D keys.length (l.take k) (D (l.getD k 0))) (.int .i64 (l.getD k 0 : Nat))).length = keys.length := by rw [List.length_set, htl]
              have hdl := hD1 (l.getD k 0)
              have hcell : wr.cell? ⟨w.heap.size, D (l.getD k 0), none⟩ = some (.int .i64 (cnt3 D keys.length (l.take k) (D (l.getD k 0)) : Nat)) := by
                rw [hown.cellAt _ (by omega), cellsOf_at _ (by omega)]
              have hfr : wr.frozen? ⟨w.heap.size, D (l.getD k 0), none⟩ = false := hown.frozenAt _
              have hfg : wr.frozen? ⟨g, cnt3 D keys.length (l.take k) (D (l.getD k 0)), none⟩ = false := ht.frozenAt _
              obtain ⟨tv, htv⟩ : ∃ tv, wr.cell? ⟨g, cnt3 D keys.length (l.take k) (D (l.getD k 0)), none⟩ = some tv := by
                rw [ht.cellAt _ (by omega)]
                exact ⟨_, List.getElem?_eq_getElem (by omega)⟩
              rw [hstep] at hst2
              have hto2 := ownsRow_setCell_other hst1.1 (a := ⟨w.heap.size, D (l.getD k 0), none⟩) (by simp [Value.ownBlock]; omega) (.int .i64 ((cnt3 D keys.length (l.take k) (D (l.getD k 0)) : Nat) + 1 : Int))
              have hg2 := fun u v => grown_set (b := w.heap.size) (c := D (l.getD k 0)) (u := u) (grown_set (b := g) (c := cnt3 D keys.length (l.take k) (D (l.getD k 0))) (u := v) hg (.inl rfl)) (.inr (Nat.le_refl _))
              have hc3 : cnt3 D keys.length (l.take k) (D (l.getD k 0)) < 1000 := by omega
              clear hcf hck hc2 hstep hlaid hzD
              generalize hp : l.getD k 0 = p at *
              have hzD : keys.getD p 0 / 2 ^ sh % 256 = ((D p : Nat) : Int) := by rw [byte_int hz0, ← hD]; rfl
              generalize keys.getD p 0 = z at *
              generalize cnt3 D keys.length (l.take k) (D p) = c at *
              generalize D p = d at *
              clear hp
              go_wp2
              go_roundw
              case rel => exact ⟨k + 1, _, by omega, by go_num, hset, hlaid2, hst2.1, hto2, hg2 _ _⟩
              case measure => simp [intOf]; omega
            · obtain rfl : k = keys.length := by omega
              have hT : Hid (ts = natsV (sorted D l 256)) := laid_all hD1 hl htl (by have := hlaid.out; rwa [List.take_of_length_le (by omega)] at this)
              have ht2 : wr.ownsRow 0 3 1 (.slice (some ⟨g, 0, none⟩) keys.length cap) keys.length (natsV (sorted D l 256)) := by rw [← hT.out]; exact ht
              clear hlaid
              go_wp2
              first | go_end0 | refine bodyPost_ret (results_none rfl _ _ _) rfl ?_
              exact ⟨rfl, hg, by rw [hD]; exact ht2⟩
end Go.Proofs.YtfkcopokeofjoaaGreat
/-
  THE PROGRAM's ORDER OF KEYS, by contract.
-/
namespace Go.Proofs.YtfkcopokeofjoaaGreat
open Go.ChangeShapes Go.WideShapes Go.ChangeAt Go.RowKit

theorem infoI : (Tryz.prog.info? 3).map (fun i => (i.zero, i.size, i.bytes)) = some (some (.int .i64 0), 1, 8) := by kernel_rfl
theorem own_base {w : World} {B B' : Nat} {e : TypeId} {size g n cap : Nat} {xs : List Value} (h : w.ownsRow B e size (.slice (some ⟨g, 0, none⟩) n cap) n xs) (hb : B' ≤ g) : w.ownsRow B' e size (.slice (some ⟨g, 0, none⟩) n cap) n xs := by
  refine ⟨h.1, ?_⟩
  rcases h.2 with h2 | ⟨g', cap', cur, h1, h2, h3⟩
  · exact .inl h2
  · cases h1
    exact .inr ⟨_, _, cur, rfl, hb, h3⟩
theorem ordered_congr {K K' : Nat → Nat} {n : Nat} {l : List Nat} (h : Ordered K n l) (hk : ∀ p, p < n → K p = K' p) : Ordered K' n l := by
  refine ⟨h.1.imp_of_mem fun {p q} hp hq hpq => ?_, h.2⟩
  have h1 := hk p ((h.2 p).1 hp)
  have h2 := hk q ((h.2 q).1 hq)
  unfold KeyLt at hpq ⊢
  rw [← h1, ← h2]; exact hpq
theorem log_c (u : Nat) (w : World) (hu : u < 18446744073709551616) :
    Calls Tryz.prog 53 #[.int .u64 (u : Int)] w fun e w' => e = .returned (.int .i64 ((Lib.bitLen u : Int) - 1)) ∧ w' = w := by
  have hb := Lib.bitLen_le u 64 (by decide) hu
  have hlen := fun w => Tryz.bits_Len64 (u : Int) w (by omega) (by omega)
  rw [show ((u : Int)).toNat = u by omega] at hlen
  generalize Lib.bitLen u = B at *
  go_enter Tryz.func53, Tryz.ntmps53
  go_wp2_with (first | (go_at_call 75; refine (hlen _).mono ?_; rintro e w' ⟨rfl, rfl⟩) | go_in)
  go_ret
  exact ⟨rfl, rfl⟩
/-- Places laid so far. -/
def laidTo (n k : Nat) : List Value := (List.range n).map fun j => .int .i64 (if j < k then (j : Int) else 0)
theorem laidTo_len (n k : Nat) : (laidTo n k).length = n := by simp [laidTo]
theorem laidTo_zero (n : Nat) : laidTo n 0 = List.replicate n (.int .i64 0) := by
  apply List.ext_getElem?
  intro j
  by_cases hj : j < n
  · simp [laidTo, hj]
  · rw [List.getElem?_eq_none (by rw [laidTo_len]; omega), List.getElem?_eq_none (by simp; omega)]
theorem laidTo_set (n k : Nat) (hk : k < n) : (laidTo n k).set k (.int .i64 (k : Int)) = laidTo n (k + 1) := by
  apply List.ext_getElem?
  intro j
  rw [List.getElem?_set, laidTo_len]
  by_cases hj : j < n
  · simp only [laidTo, List.getElem?_map, List.getElem?_range hj, Option.map_some]
    by_cases h0 : k = j
    · subst h0; simp [hk]
    · rw [if_neg h0]
      by_cases h1 : j < k
      · simp [h1, show j < k + 1 by omega]
      · simp [h1, show ¬ j < k + 1 by omega]
  · rw [List.getElem?_eq_none (l := laidTo n k) (by rw [laidTo_len]; omega), List.getElem?_eq_none (l := laidTo n (k + 1)) (by rw [laidTo_len]; omega)]
    split
    · exfalso; omega
    · rfl
theorem laidTo_all (n : Nat) : laidTo n n = natsV (List.range n) := by
  unfold laidTo natsV
  apply List.map_congr_left
  intro j hj
  rw [if_pos (List.mem_range.1 hj)]
theorem bitLen_bound {x : Nat} (hx : x < 18446744073709551616) : x < 2 ^ Lib.bitLen x := by
  by_cases h : x = 0
  · subst h; exact Nat.two_pow_pos _
  · exact (Lib.bitLenAux_bounds 64 x hx h).2.2
theorem or_bound {a k m : Nat} (h : a ||| k < 2 ^ m) : a < 2 ^ m ∧ k < 2 ^ m := ⟨Nat.lt_of_le_of_lt Nat.left_le_or h, Nat.lt_of_le_of_lt Nat.right_le_or h⟩

set_option maxHeartbeats 1600000 in
set_option maxRecDepth 1000000 in
theorem order_c (vk : Value) (keys : List Int) (w : World) (hk : Holds w vk (keys.map (Value.int .u64))) (hn1 : keys.length ≤ 1000) (hwf : ∀ z ∈ keys, (Lit.int .u64 z).wf = true) :
    Calls Tryz.prog 39 #[vk] w fun e w' => ∃ v' l, e = .returned v' ∧ Ordered (keyOf keys) keys.length l ∧ w'.ownsRow w.heap.size 3 1 v' keys.length (natsV l) ∧ Below w.heap.size w w' := by
  have hlog := fun (u : Nat) (w : World) hu => log_c u w hu
  have hkeep := hk
  obtain ⟨ak, ck, rfl, hrk⟩ := hk
  rw [List.length_map] at hkeep ⊢
  have hpass := fun (vf : Value) (l : List Nat) (sh g cap : Nat) (ys : List Value) (w' : World) (hB : Below w.heap.size w w') hf ht hne hke hl hsh => pass_c (.slice ak keys.length ck) vf keys l sh g cap keys.length ys w' (hkeep.below hB) hf ht hne hke rfl hn1 hl hsh hwf
  obtain ⟨i0, hi, hz0, hz1, hz2⟩ := info_parts infoI
  go_enter Tryz.func39, Tryz.ntmps39
  go_wp2_with (refine wpList_make_full _ rfl _ _ 37 rfl w.heap.size 3 i0 (.int .i64 0) 1 Tryz.underlying37 hi hz0 hz1 .i64 .i64 _ _ keys.length rfl rfl rfl rfl ?d3 ?d4 ?d5 ?_)
  case d3 => rw [hz2]; omega
  case d4 => unfold maxLen; omega
  case d5 => omega
  intro w0 hown0 hgrow0
  have hsz0 := hgrow0.size
  have hB0 : Below w.heap.size w w0 := (Below.refl _ _).grown hgrow0 (Nat.le_refl _) (fun j hj => by cases hj)
  have hown1 : w0.ownsRow w.heap.size 3 1 (.slice (some ⟨w.heap.size, 0, none⟩) keys.length keys.length) keys.length (laidTo keys.length 0) := by
    rw [laidTo_zero]
    simpa [madeCells, Value.cells, Nat.mod_one, List.map_const'] using hown0
  clear hown0 hgrow0
  go_wp2
  go_loopw [14, 4] (fun i a wr => ∃ k A : Nat, k ≤ keys.length ∧ i = .int .i64 k ∧ a = .int .u64 (A : Nat) ∧ A < 18446744073709551616 ∧ Hid (k = 0 → A = 0) ∧ Hid (∀ p, p < k → ∀ m, A < 2 ^ m → keyOf keys p < 2 ^ m) ∧
      wr.ownsRow w.heap.size 3 1 (.slice (some ⟨w.heap.size, 0, none⟩) keys.length keys.length) keys.length (laidTo keys.length k) ∧ Below w.heap.size w wr)
    (fun i _ _ => keys.length - (intOf i).toNat)
  case atStart => exact ⟨0, 0, Nat.zero_le _, rfl, rfl, by omega, fun _ => rfl, fun p hp => by omega, hown1, hB0⟩
  case round =>
    obtain ⟨k, A, hk, rfl, rfl, hA, hnil, hall, hown, hnx⟩ := hrel
    by_cases hlt : k < keys.length
    · obtain ⟨bk, ok, rfl, hbk, hck⟩ : ∃ b off, ak = some ⟨b, off, none⟩ ∧ b < w.heap.size ∧ w.cell? ⟨b, off + k, none⟩ = some (.int .u64 (keys.getD k 0)) := by
        rcases hrk with h0 | ⟨b, off, rfl, hb, hc⟩
        · simp only [List.map_eq_nil_iff] at h0; subst h0; simp at hlt
        · exact ⟨b, off, rfl, hb, hc k _ (by rw [List.getElem?_map, getD_some hlt]; rfl)⟩
      have hck' : wr.cell? ⟨bk, ok + k, none⟩ = some (.int .u64 (keys.getD k 0)) := (hnx.cell (by exact hbk)).trans hck
      obtain ⟨hz0', hz1'⟩ := bounds_u64 (hwf _ (getD_mem hlt))
      have hzk : keys.getD k 0 = ((keyOf keys k : Nat) : Int) := by unfold keyOf; omega
      have hkb : keyOf keys k < 18446744073709551616 := by unfold keyOf; omega
      have hor : bits .or .u64 (A : Int) (keys.getD k 0) = ((A ||| keyOf keys k : Nat) : Int) := by rw [hzk]; exact u64_or_nat A _ hA hkb
      have hA2 : A ||| keyOf keys k < 18446744073709551616 := Nat.or_lt_two_pow (n := 64) (by omega) (by omega)
      have hall2 : Hid (∀ p, p < k + 1 → ∀ m, A ||| keyOf keys k < 2 ^ m → keyOf keys p < 2 ^ m) := fun p hp m hm => by
        obtain ⟨h1, h2⟩ := or_bound hm
        rcases Nat.lt_or_ge p k with h | h
        · exact hall.out p h m h1
        · obtain rfl : p = k := by omega
          exact h2
      have hst := hown.stored k (.int .i64 (k : Int))
      rw [laidTo_set _ _ hlt] at hst
      have hfr : wr.frozen? ⟨w.heap.size, k, none⟩ = false := hown.frozenAt k
      obtain ⟨tv, htv⟩ : ∃ tv, wr.cell? ⟨w.heap.size, k, none⟩ = some tv := by
        rw [hown.cellAt k (by omega)]
        exact ⟨_, List.getElem?_eq_getElem (by rw [laidTo_len]; omega)⟩
      clear hck hall hzk hpass hlog hz0' hz1'
      generalize keys.getD k 0 = z at *
      generalize A ||| keyOf keys k = A2 at *
      go_wp2
      go_roundw
      case rel => exact ⟨k + 1, A2, by omega, by go_num, by first | rfl | rw [hor], hA2, fun h => by omega, hall2, hst.1, hnx.setCell (Nat.le_refl _) _⟩
      case measure => simp [intOf]; omega
    · obtain rfl : k = keys.length := by omega
      rw [laidTo_all] at hown
      clear hown1 hB0 hsz0
      have hszr := hnx.size
      go_wp2_with (refine wpList_make_full _ rfl _ _ 37 rfl w.heap.size 3 i0 (.int .i64 0) 1 Tryz.underlying37 hi hz0 hz1 .i64 .i64 _ _ keys.length rfl rfl rfl rfl ?d3 ?d4 ?d5 ?_)
      case d3 => rw [hz2]; omega
      case d4 => unfold maxLen; omega
      case d5 => omega
      intro w2 hown2 hgrow2
      have hB2 : Below w.heap.size w w2 := hnx.grown hgrow2 hszr (fun j hj => by cases hj)
      have hown3 := hown.kept hgrow2 (.inr (by simp [Value.ownBlock]))
      have hown2 := own_base hown2 hszr
      have hAl := bitLen_bound hA
      have hbl := Lib.bitLen_le A 64 (by decide) hA
      have hlogA := fun w => hlog A w hA
      have hwne : w.heap.size ≠ wr.heap.size := by have := (hown.lt w.heap.size rfl).2; omega
      clear hlog hgrow2 hown hnx
      go_wp2
      go_loopw [3, 7, 8] (fun v3 v7 sh wr => ∃ m : Nat, ∃ l : List Nat, ∃ g1 g2 c1 c2 : Nat, ∃ ys : List Value, v3 = .slice (some ⟨g1, 0, none⟩) keys.length c1 ∧ v7 = .slice (some ⟨g2, 0, none⟩) keys.length c2 ∧ g1 ≠ g2 ∧ sh = .int .i64 ((8 * m : Nat) : Int) ∧ m ≤ 8 ∧
          Hid (Ordered (fun p => keyOf keys p % 2 ^ (8 * m)) keys.length l) ∧ wr.ownsRow w.heap.size 3 1 (.slice (some ⟨g1, 0, none⟩) keys.length c1) keys.length (natsV l) ∧
          wr.ownsRow w.heap.size 3 1 (.slice (some ⟨g2, 0, none⟩) keys.length c2) keys.length ys ∧ Below w.heap.size w wr)
        (fun _ _ sh _ => 72 - (intOf sh).toNat)
      case atStart =>
        refine ⟨0, List.range keys.length, _, _, _, _, _, rfl, rfl, hwne, rfl, by omega, ?_, hown3, hown2, hB2⟩
        exact ordered_congr (ordered_start keys.length) fun p _ => by simp [Nat.mod_one]
      case round =>
        clear hown3 hown2 hB2
        obtain ⟨m, l, g1, g2, c1, c2, ys, rfl, rfl, hgne, rfl, hm, hord, ho1, ho2, hnx⟩ := hrel
        by_cases hgo : ((8 * m : Nat) : Int) ≤ (Lib.bitLen A : Int) - 1
        · have hm7 : m ≤ 7 := by omega
          have hg2 := (ho2.lt g2 rfl)
          have hA0 : A ≠ 0 := fun e => by subst e; have : Lib.bitLen 0 = 0 := by decide
                                          omega
          have hk0 : 0 < keys.length := by
            rcases Nat.eq_zero_or_pos keys.length with h | h
            · exact absurd (hnil.out h) hA0
            · exact h
          have hke : (Value.slice ak keys.length ck).ownBlock ≠ some g2 := by
            rcases hrk with h0 | ⟨b, off, rfl, hb, _⟩
            · simp only [List.map_eq_nil_iff] at h0; subst h0; simp at hk0
            · simp only [Value.ownBlock]; intro e; cases e; omega
          have hcall := hpass (.slice (some ⟨g1, 0, none⟩) keys.length c1) l (8 * m) g2 c2 ys wr hnx (holds_of_owns ho1) (own_base ho2 (Nat.zero_le _)) (by simp only [Value.ownBlock]; intro e; cases e; exact hgne rfl) hke hord.out.perm (by omega)
          have hord2 : Hid (Ordered (fun p => keyOf keys p % 2 ^ (8 * (m + 1))) keys.length (sorted (byteOf keys (8 * m)) l 256)) := by
            have h := pass_ordered (key := keyOf keys) (w := 2 ^ (8 * m)) (Nat.two_pow_pos _) hord.out
            have e : 2 ^ (8 * m) * 256 = 2 ^ (8 * (m + 1)) := by rw [show 8 * (m + 1) = 8 * m + 8 by omega, Nat.pow_add, show (2 : Nat) ^ 8 = 256 by decide]
            rw [e] at h
            exact h
          generalize sorted (byteOf keys (8 * m)) l 256 = l2 at *
          have hdec : decide (((8 * m : Nat) : Int) ≤ (Lib.bitLen A : Int) - 1) = true := decide_eq_true hgo
          have hm56 : 8 * m ≤ 56 := by omega
          clear hpass hord hall hrk hkeep hnil
          generalize hM : 8 * m = M at *
          generalize Lib.bitLen A = BL at *
          go_wp2_with (first
            | (go_at_call 53; refine (hlogA _).mono ?_; rintro e w' ⟨rfl, rfl⟩)
            | (go_at_call 54; refine hcall.mono ?_; rintro e w' ⟨rfl, hg, ht'⟩))
          have ho2' := own_base (B' := w.heap.size) ht' hg2.1
          have ho1' := ho1.kept hg (.inr (by simp only [Value.ownBlock]; intro e; cases e; exact hgne rfl))
          have hB' : Below w.heap.size w w' := hnx.grown hg hnx.size (fun j hj => by cases hj; exact hg2.1)
          clear ht' hg ho1 ho2 hcall
          go_roundw
          case rel =>
            refine ⟨m + 1, l2, g2, g1, c2, c1, natsV l, rfl, rfl, fun e => hgne e.symm, ?_, by omega, hord2, ho2', ho1', hB'⟩
            have e : ((M : Nat) : Int) + 8 = ((8 * (m + 1) : Nat) : Int) := by omega
            first | rw [e] | go_num
          case measure => simp [intOf]; omega
        · have hle : Lib.bitLen A ≤ 8 * m := by omega
          have hfin : Hid (Ordered (keyOf keys) keys.length l) := by
            refine ordered_congr hord.out fun p hp => Nat.mod_eq_of_lt ?_
            exact hall.out p hp _ (Nat.lt_of_lt_of_le hAl (Nat.pow_le_pow_right (by decide) hle))
          have hdec : decide (((8 * m : Nat) : Int) ≤ (Lib.bitLen A : Int) - 1) = false := decide_eq_false hgo
          clear hpass hord hall hrk hkeep hnil hAl
          generalize hM : 8 * m = M at *
          generalize Lib.bitLen A = BL at *
          go_wp2_with (go_at_call 53; refine (hlogA _).mono ?_; rintro e w' ⟨rfl, rfl⟩)
          go_ret
          exact ⟨_, l, rfl, hfin.out, ho1, hnx⟩
end Go.Proofs.YtfkcopokeofjoaaGreat
