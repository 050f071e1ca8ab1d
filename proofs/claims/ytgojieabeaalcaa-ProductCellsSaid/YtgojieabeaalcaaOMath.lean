/-
  PLACES IN THE ORDER OF THEIR KEYS: counting by one byte, byte after byte. No function is named here.
-/
import Derived.Test.YtgojieabeaalcaaRows
namespace Go.Proofs.Ytgojieabeaalcaa

/-- The order of places: by key, and then by place. -/
def KeyLt (K : Nat → Nat) (p q : Nat) : Prop := K p < K q ∨ (K p = K q ∧ p < q)
/-- A row of all places below n, in order. -/
def Ordered (K : Nat → Nat) (n : Nat) (l : List Nat) : Prop := l.Pairwise (KeyLt K) ∧ ∀ p, p ∈ l ↔ p < n
theorem KeyLt.irrefl {K : Nat → Nat} {p q : Nat} (h : KeyLt K p q) : p ≠ q := by
  rintro rfl; rcases h with h | h <;> omega
theorem KeyLt.asymm {K : Nat → Nat} {p q : Nat} (h : KeyLt K p q) : ¬ KeyLt K q p := by
  rintro (h' | h') <;> rcases h with h | h <;> omega
theorem ordered_ext {K : Nat → Nat} : ∀ (l m : List Nat), l.Pairwise (KeyLt K) → m.Pairwise (KeyLt K) → (∀ p, p ∈ l ↔ p ∈ m) → l = m
  | [], [], _, _, _ => rfl
  | [], y :: m, _, _, h => by have := (h y).2 (by simp); cases this
  | x :: l, [], _, _, h => by have := (h x).1 (by simp); cases this
  | x :: l, y :: m, hl, hm, h => by
    have hl' := List.pairwise_cons.1 hl
    have hm' := List.pairwise_cons.1 hm
    have e : x = y := by
      rcases List.mem_cons.1 ((h x).1 (by simp)) with e | hx
      · exact e
      · rcases List.mem_cons.1 ((h y).2 (by simp)) with e | hy
        · exact e.symm
        · exact absurd (hm'.1 x hx) (hl'.1 y hy).asymm
    subst e
    rw [ordered_ext l m hl'.2 hm'.2 fun z => ?_]
    have hz := h z
    simp only [List.mem_cons] at hz
    constructor
    · intro hzl
      rcases hz.1 (.inr hzl) with rfl | h
      · exact absurd rfl (hl'.1 z hzl).irrefl
      · exact h
    · intro hzm
      rcases hz.2 (.inr hzm) with rfl | h
      · exact absurd rfl (hm'.1 z hzm).irrefl
      · exact h
theorem Ordered.unique {K : Nat → Nat} {n : Nat} {l m : List Nat} (hl : Ordered K n l) (hm : Ordered K n m) : l = m :=
  ordered_ext l m hl.1 hm.1 fun p => (hl.2 p).trans (hm.2 p).symm
theorem Ordered.perm {K : Nat → Nat} {n : Nat} {l : List Nat} (hl : Ordered K n l) : l.Perm (List.range n) := by
  refine (List.perm_ext_iff_of_nodup (hl.1.imp fun h => h.irrefl) List.nodup_range).2 fun p => ?_
  rw [hl.2, List.mem_range]
theorem Ordered.len {K : Nat → Nat} {n : Nat} {l : List Nat} (hl : Ordered K n l) : l.length = n := by
  have := hl.perm.length_eq; simpa using this
theorem ordered_start (n : Nat) : Ordered (fun _ => 0) n (List.range n) := by
  refine ⟨?_, fun p => List.mem_range⟩
  exact List.pairwise_lt_range.imp fun h => .inr ⟨rfl, h⟩

/-- Those of a row with one byte. -/
def part (d : Nat → Nat) (l : List Nat) (b : Nat) : List Nat := l.filter fun p => d p == b
def sorted (d : Nat → Nat) (l : List Nat) (m : Nat) : List Nat := (List.range m).flatMap (part d l)
def below (d : Nat → Nat) (l : List Nat) (b : Nat) : Nat := (sorted d l b).length
theorem below_zero (d : Nat → Nat) (l : List Nat) : below d l 0 = 0 := by simp [below, sorted]
theorem sorted_succ (d : Nat → Nat) (l : List Nat) (b : Nat) : sorted d l (b + 1) = sorted d l b ++ part d l b := by
  simp [sorted, List.range_succ, List.flatMap_append]
theorem below_succ (d : Nat → Nat) (l : List Nat) (b : Nat) : below d l (b + 1) = below d l b + (part d l b).length := by
  simp [below, sorted_succ]
theorem below_mono (d : Nat → Nat) (l : List Nat) {a b : Nat} (h : a ≤ b) : below d l a ≤ below d l b := by
  induction h with
  | refl => exact Nat.le_refl _
  | step h ih => rw [below_succ]; omega
theorem sorted_at (d : Nat → Nat) (l : List Nat) : ∀ m b j, b < m → j < (part d l b).length → (sorted d l m)[below d l b + j]? = (part d l b)[j]?
  | 0, b, j, h, _ => by omega
  | m + 1, b, j, h, hj => by
    rw [sorted_succ]
    by_cases hb : b < m
    · have h1 := below_mono d l (a := b + 1) (b := m) hb
      rw [below_succ] at h1
      rw [List.getElem?_append_left (by show _ < below d l m; omega)]
      exact sorted_at d l m b j hb hj
    · obtain rfl : b = m := by omega
      rw [List.getElem?_append_right (by show below d l b ≤ _; omega)]
      congr 1
      show below d l b + j - below d l b = j
      omega
theorem mem_part {d : Nat → Nat} {l : List Nat} {b p : Nat} : p ∈ part d l b ↔ p ∈ l ∧ d p = b := by simp [part]
theorem mem_sorted {d : Nat → Nat} {l : List Nat} {m p : Nat} : p ∈ sorted d l m ↔ p ∈ l ∧ d p < m := by
  simp only [sorted, List.mem_flatMap, List.mem_range, mem_part]
  constructor
  · rintro ⟨b, hb, hp, rfl⟩; exact ⟨hp, hb⟩
  · rintro ⟨hp, hb⟩; exact ⟨_, hb, hp, rfl⟩
/-- A place of the row lies within some part. -/
theorem place_of (d : Nat → Nat) (l : List Nat) : ∀ m i, i < below d l m → ∃ b j, b < m ∧ j < (part d l b).length ∧ i = below d l b + j
  | 0, i, h => by rw [below_zero] at h; omega
  | m + 1, i, h => by
    rw [below_succ] at h
    by_cases hi : i < below d l m
    · obtain ⟨b, j, h1, h2, h3⟩ := place_of d l m i hi
      exact ⟨b, j, by omega, h2, h3⟩
    · exact ⟨m, i - below d l m, by omega, by omega, by omega⟩
theorem sorted_pairwise {K : Nat → Nat} {d : Nat → Nat} {w : Nat} {l : List Nat} (hK : ∀ p ∈ l, K p < w) (h : l.Pairwise (KeyLt K)) (m : Nat) :
    (sorted d l m).Pairwise (KeyLt fun p => d p * w + K p) := by
  have hlt : ∀ p q, p ∈ l → q ∈ l → d p < d q → d p * w + K p < d q * w + K q := fun p q hp _ hd => by
    have h1 := hK p hp
    have h2 : (d p + 1) * w ≤ d q * w := Nat.mul_le_mul_right _ hd
    rw [Nat.add_mul] at h2
    omega
  unfold sorted
  rw [List.pairwise_flatMap]
  constructor
  · intro b hb
    refine ((h.filter _).imp_of_mem ?_ : (part d l b).Pairwise _)
    intro p q hp hq hpq
    have h1 := (mem_part.1 hp).2
    have h2 := (mem_part.1 hq).2
    rcases hpq with h' | ⟨h', h''⟩
    · exact .inl (by show d p * w + K p < d q * w + K q; rw [h1, h2]; omega)
    · exact .inr ⟨by show d p * w + K p = d q * w + K q; rw [h1, h2, h'], h''⟩
  · refine List.pairwise_lt_range.imp fun {a b} hab x hx y hy => ?_
    obtain ⟨hx1, hx2⟩ := mem_part.1 hx
    obtain ⟨hy1, hy2⟩ := mem_part.1 hy
    exact .inl (hlt x y hx1 hy1 (by omega))
/-- One pass: a row in the order of what keys are modulo w becomes one in the order of what they are modulo 256 w. -/
theorem pass_ordered {key : Nat → Nat} {n w : Nat} (hw : 0 < w) {l : List Nat} (h : Ordered (fun p => key p % w) n l) :
    Ordered (fun p => key p % (w * 256)) n (sorted (fun p => key p / w % 256) l 256) := by
  have e : (fun p => key p / w % 256 * w + key p % w) = fun p => key p % (w * 256) := by
    funext p
    rw [Nat.mod_mul, Nat.mul_comm w, Nat.add_comm]
  refine ⟨?_, fun p => ?_⟩
  · have := sorted_pairwise (d := fun p => key p / w % 256) (w := w) (K := fun p => key p % w) (fun p _ => Nat.mod_lt _ hw) h.1 256
    rwa [e] at this
  · rw [mem_sorted, h.2]
    exact ⟨fun h => h.1, fun h => ⟨h, Nat.mod_lt _ (by decide)⟩⟩
theorem part_perm {d : Nat → Nat} {l m : List Nat} (h : l.Perm m) (b : Nat) : (part d l b).length = (part d m b).length := (h.filter _).length_eq
theorem below_perm {d : Nat → Nat} {l m : List Nat} (h : l.Perm m) : ∀ b, below d l b = below d m b
  | 0 => by rw [below_zero, below_zero]
  | b + 1 => by rw [below_succ, below_succ, below_perm h b, part_perm h b]
theorem below_all {d : Nat → Nat} (hd : ∀ p, d p < 256) (l : List Nat) : below d l 256 = l.length := by
  induction l with
  | nil => 
    have : ∀ b, below d [] b = 0 := fun b => by
      induction b with
      | zero => exact below_zero _ _
      | succ b ih => rw [below_succ, ih]; rfl
    rw [this]; rfl
  | cons x l ih =>
    have : ∀ b, below d (x :: l) b = below d l b + if d x < b then 1 else 0 := fun b => by
      induction b with
      | zero => rw [below_zero, below_zero]; simp
      | succ b ih =>
        rw [below_succ, below_succ, ih]
        by_cases h : d x = b
        · have e : part d (x :: l) b = x :: part d l b := by simp [part, h]
          rw [e, List.length_cons, if_neg (by omega), if_pos (by omega)]; omega
        · have e : part d (x :: l) b = part d l b := by simp [part, h]
          rw [e]
          by_cases h2 : d x < b
          · rw [if_pos h2, if_pos (by omega)]; omega
          · rw [if_neg h2, if_neg (by omega)]; omega
    rw [this, if_pos (hd x), ih, List.length_cons]
end Go.Proofs.Ytgojieabeaalcaa
