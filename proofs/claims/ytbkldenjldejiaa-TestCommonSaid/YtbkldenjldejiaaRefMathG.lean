/-
  RISING LISTS AS THE NUMBERS OF WHICH SOMETHING HOLDS: mathematics alone.
-/
import Derived.Test.YtbkldenjldejiaaRefBase
namespace Go.Proofs.Ytbkldenjldejiaa
open Go.ChangeShapes Go.WideShapes Go.ChangeAt Go.RowKit

def L (p : Nat → Bool) : List Nat := (List.range 65536).filter p
def lowL (p : Nat → Bool) (m : Nat) : List Nat := (List.range m).filter p
def highL (p : Nat → Bool) (m : Nat) : List Nat := (List.range' (m + 1) (65536 - m - 1)).filter p
theorem range_split (N m : Nat) (hm : m < N) : List.range N = List.range m ++ m :: (List.range' (m + 1) (N - m - 1)) := by
  rw [List.range_eq_range', List.range_eq_range']
  conv => lhs; rw [show N = m + (1 + (N - m - 1)) by omega, ← List.range'_append_1, Nat.zero_add, ← List.range'_append_1 (m := 1)]
  simp
theorem L_split (p : Nat → Bool) (m : Nat) (hm : m < 65536) : L p = lowL p m ++ ((if p m then [m] else []) ++ highL p m) := by
  unfold L lowL highL
  generalize 65536 = N at *
  rw [range_split N m hm, List.filter_append, List.filter_cons]
  congr 1
  cases p m <;> rfl
theorem mem_L {p : Nat → Bool} {k : Nat} : k ∈ L p ↔ k < 65536 ∧ p k = true := by simp [L]
theorem L_congr {p q : Nat → Bool} (h : ∀ k, p k = q k) : L p = L q := by
  have : p = q := funext h
  rw [this]
theorem L_len (p : Nat → Bool) : (L p).length ≤ 65536 := by
  have := List.length_filter_le p (List.range 65536)
  simpa [L] using this
theorem low_congr {p q : Nat → Bool} {m : Nat} (h : ∀ k, k ≠ m → p k = q k) : lowL p m = lowL q m := List.filter_congr fun k hk => h k (by have := List.mem_range.1 hk; omega)
theorem high_congr {p q : Nat → Bool} {m : Nat} (h : ∀ k, k ≠ m → p k = q k) : highL p m = highL q m := List.filter_congr fun k hk => h k (by have := List.mem_range'_1.1 hk; omega)
/-- What is said of the place of a number in a list. -/
structure Place (xs : List Nat) (n : Int) (j : Nat) : Prop where
  le : j ≤ xs.length
  low : ∀ i, i < j → ((xs.getD i 0 : Nat) : Int) < n
  high : j < xs.length → n ≤ ((xs.getD j 0 : Nat) : Int)
theorem place_at {A D : List Nat} {m j : Nat} (hA : ∀ a ∈ A, a < m) (hD : ∀ d ∈ D, m ≤ d) (h : Place (A ++ D) m j) : j = A.length := by
  have hle := h.le
  rw [List.length_append] at hle
  rcases Nat.lt_trichotomy j A.length with h1 | h1 | h1
  · have h2 := h.high (by rw [List.length_append]; omega)
    have e : (A ++ D).getD j 0 = A[j] := by rw [List.getD_eq_getElem?_getD, List.getElem?_append_left h1, List.getElem?_eq_getElem h1]; rfl
    rw [e] at h2
    have := hA _ (List.getElem_mem h1)
    omega
  · exact h1
  · have h2 := h.low A.length h1
    have hd : 0 < D.length := by omega
    have e : (A ++ D).getD A.length 0 = D[0] := by rw [List.getD_eq_getElem?_getD, List.getElem?_append_right (Nat.le_refl _), Nat.sub_self, List.getElem?_eq_getElem hd]; rfl
    rw [e] at h2
    have := hD _ (List.getElem_mem hd)
    omega
theorem low_lt {p : Nat → Bool} {m : Nat} : ∀ a ∈ lowL p m, a < m := fun a ha => by
  simp only [lowL, List.mem_filter, List.mem_range] at ha; exact ha.1
theorem high_ge {p : Nat → Bool} {m : Nat} : ∀ a ∈ ((if p m then [m] else []) ++ highL p m), m ≤ a := fun a ha => by
  rcases List.mem_append.1 ha with h | h
  · split at h <;> simp at h; omega
  · simp only [highL, List.mem_filter, List.mem_range'_1] at h; omega
/-- Whether a number stands at its place. -/
def isAt (xs : List Nat) (n : Int) (j : Nat) : Bool := decide (j < xs.length) && decide (((xs.getD j 0 : Nat) : Int) = n)
theorem isAt_mem {xs : List Nat} {n : Int} {j : Nat} (h : isAt xs n j = true) : ∃ m : Nat, n = m ∧ m ∈ xs := by
  simp only [isAt, Bool.and_eq_true, decide_eq_true_eq] at h
  obtain ⟨h1, h2⟩ := h
  refine ⟨xs.getD j 0, h2.symm, ?_⟩
  have e : xs.getD j 0 = xs[j] := by simp [h1]
  rw [e]; exact List.getElem_mem h1
theorem isAt_L {p : Nat → Bool} {n : Int} {j : Nat} (h : Place (L p) n j) : isAt (L p) n j = (good n && p n.toNat) := by
  by_cases hg : good n = true
  · simp only [good, Bool.and_eq_true, decide_eq_true_eq] at hg
    obtain ⟨m, rfl⟩ := Int.eq_ofNat_of_zero_le hg.1
    have hm : m < 65536 := by omega
    have hgm : good (m : Int) = true := by simp [good]; omega
    rw [hgm, Bool.true_and, Int.toNat_natCast]
    rw [L_split p m hm] at h ⊢
    have hj := place_at low_lt high_ge h
    cases hp : p m with
    | true =>
      simp [isAt, hj]
    | false =>
      cases hi : isAt (lowL p m ++ ((if false then [m] else []) ++ highL p m)) m j with
      | false => simp
      | true =>
        exfalso
        obtain ⟨m', e, hmem⟩ := isAt_mem hi
        have : m' = m := by omega
        subst this
        rw [show lowL p m' ++ ((if false then [m'] else []) ++ highL p m') = L p by rw [L_split p m' hm, hp]] at hmem
        rw [mem_L, hp] at hmem
        cases hmem.2
  · have hg' : good n = false := by simpa using hg
    rw [hg', Bool.false_and]
    cases hi : isAt (L p) n j with
    | false => rfl
    | true =>
      exfalso
      obtain ⟨m, rfl, hmem⟩ := isAt_mem hi
      have := (mem_L.1 hmem).1
      apply hg; simp [good]; omega
theorem L_put {p : Nat → Bool} {m j : Nat} (hm : m < 65536) (hp : p m = false) (h : Place (L p) m j) : (L p).take j ++ [m] ++ (L p).drop j = L fun k => p k || k == m := by
  have hq : ∀ k, k ≠ m → p k = (p k || k == m) := fun k hk => by simp [hk]
  rw [L_split p m hm, hp] at h ⊢
  simp only [Bool.false_eq_true, if_false, List.nil_append] at h ⊢
  have hj := place_at low_lt (fun d hd => high_ge (p := p) d (by rw [hp]; simpa using hd)) h
  rw [L_split (fun k => p k || k == m) m hm, hj, List.take_left, List.drop_left, ← low_congr hq, ← high_congr hq]
  simp
theorem L_cut {p : Nat → Bool} {m j : Nat} (hm : m < 65536) (hp : p m = true) (h : Place (L p) m j) : (L p).take j ++ (L p).drop (j + 1) = L fun k => p k && !(k == m) := by
  have hq : ∀ k, k ≠ m → p k = (p k && !(k == m)) := fun k hk => by simp [hk]
  rw [L_split p m hm, hp] at h ⊢
  simp only [if_true] at h ⊢
  have hj := place_at low_lt (fun d hd => high_ge (p := p) d (by rw [hp]; simpa using hd)) h
  rw [L_split (fun k => p k && !(k == m)) m hm, hj, List.take_left, ← List.drop_drop, List.drop_left, ← low_congr hq, ← high_congr hq]
  simp
/-! ### The numbers of a set -/
end Go.Proofs.Ytbkldenjldejiaa
