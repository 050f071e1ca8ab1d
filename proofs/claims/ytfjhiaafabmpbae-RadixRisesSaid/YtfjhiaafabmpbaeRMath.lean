/-
  LISTS THAT RISE: where a number stands, one more, all of both, what both have. No function is named here.
-/
import Derived.Test.YtfjhiaafabmpbaeRows
namespace Go.Proofs.Ytfjhiaafabmpbae

def Rises (l : List Int) : Prop := l.Pairwise (· < ·)
/-- n is how many at the list's head are below k. -/
def IsLow (l : List Int) (k : Int) (n : Nat) : Prop := n ≤ l.length ∧ (∀ j, j < n → l.getD j 0 < k) ∧ (n < l.length → ¬ l.getD n 0 < k)
theorem IsLow.unique {l : List Int} {k : Int} {m n : Nat} (hm : IsLow l k m) (hn : IsLow l k n) : m = n := by
  obtain ⟨m1, m2, m3⟩ := hm
  obtain ⟨n1, n2, n3⟩ := hn
  rcases Nat.lt_trichotomy m n with h | h | h
  · exact absurd (n2 m h) (m3 (by omega))
  · exact h
  · exact absurd (m2 n h) (n3 (by omega))

def ins : List Int → Int → List Int
  | [], z => [z]
  | x :: xs, z => if x < z then x :: ins xs z else if x = z then x :: xs else z :: x :: xs
theorem ins_len : ∀ (l : List Int) (z : Int), (ins l z).length ≤ l.length + 1
  | [], _ => by simp [ins]
  | x :: xs, z => by
    have := ins_len xs z
    unfold ins
    split
    · simp; omega
    · split <;> simp
theorem ins_at : ∀ (l : List Int) (z : Int) (n : Nat), IsLow l z n →
    ((n < l.length ∧ l.getD n 0 = z) → ins l z = l) ∧ (¬ (n < l.length ∧ l.getD n 0 = z) → ins l z = l.take n ++ [z] ++ l.drop n)
  | [], z, n, h => by
    have : n = 0 := by have := h.1; simp at this; exact this
    subst this
    simp [ins]
  | x :: xs, z, n, h => by
    obtain ⟨h1, h2, h3⟩ := h
    cases n with
    | zero =>
      have h3 : ¬ x < z := h3 (by simp)
      constructor
      · rintro ⟨_, h⟩
        have h : x = z := h
        unfold ins
        rw [if_neg h3, if_pos h]
      · intro h
        have h : ¬ x = z := fun e => h ⟨by simp, e⟩
        unfold ins
        rw [if_neg h3, if_neg h]
        rfl
    | succ n =>
      have hx : x < z := h2 0 (by omega)
      have ih := ins_at xs z n ⟨by simpa using h1, fun j hj => h2 (j + 1) (by omega), fun hn => h3 (by simpa using hn)⟩
      unfold ins
      rw [if_pos hx]
      constructor
      · rintro ⟨ha, hb⟩
        rw [ih.1 ⟨by simpa using ha, hb⟩]
      · intro h
        rw [ih.2 fun ⟨ha, hb⟩ => h ⟨by simpa using ha, hb⟩]
        simp
theorem mem_ins : ∀ (l : List Int) (z y : Int), y ∈ ins l z ↔ y = z ∨ y ∈ l
  | [], z, y => by simp [ins]
  | x :: xs, z, y => by
    unfold ins
    split
    · simp only [List.mem_cons, mem_ins xs z y]
      constructor
      · rintro (h | h | h) <;> simp [h]
      · rintro (h | h | h) <;> simp [h]
    · split
      · rename_i h; subst h; simp
      · simp
theorem ins_rises : ∀ (l : List Int) (z : Int), Rises l → Rises (ins l z)
  | [], z, _ => by simp [ins, Rises]
  | x :: xs, z, h => by
    have h' := List.pairwise_cons.1 h
    unfold ins
    split
    · rename_i hx
      refine List.pairwise_cons.2 ⟨fun y hy => ?_, ins_rises xs z h'.2⟩
      rcases (mem_ins xs z y).1 hy with rfl | hy
      · exact hx
      · exact h'.1 y hy
    · split
      · exact h
      · refine List.pairwise_cons.2 ⟨fun y hy => ?_, h⟩
        rcases List.mem_cons.1 hy with rfl | hy
        · omega
        · have := h'.1 y hy; omega
def rise (l : List Int) : List Int := l.foldl ins []
theorem foldl_ins : ∀ (l a : List Int), Rises a → Rises (l.foldl ins a) ∧ (∀ y, y ∈ l.foldl ins a ↔ y ∈ a ∨ y ∈ l) ∧ (l.foldl ins a).length ≤ a.length + l.length
  | [], a, h => ⟨h, by simp, by simp⟩
  | x :: xs, a, h => by
    obtain ⟨h1, h2, h3⟩ := foldl_ins xs (ins a x) (ins_rises a x h)
    refine ⟨h1, fun y => ?_, ?_⟩
    · rw [List.foldl_cons, h2, mem_ins, List.mem_cons]
      constructor
      · rintro ((h | h) | h) <;> simp [h]
      · rintro (h | h | h) <;> simp [h]
    · have := ins_len a x
      rw [List.foldl_cons, List.length_cons]; omega
theorem rise_rises (l : List Int) : Rises (rise l) := (foldl_ins l [] (by simp [Rises])).1
theorem mem_rise (l : List Int) (y : Int) : y ∈ rise l ↔ y ∈ l := by have := (foldl_ins l [] (by simp [Rises])).2.1 y; simpa [rise] using this
theorem rise_len (l : List Int) : (rise l).length ≤ l.length := by have := (foldl_ins l [] (by simp [Rises])).2.2; simpa [rise] using this
theorem rise_succ (l : List Int) (k : Nat) (hk : k < l.length) : rise (l.take (k + 1)) = ins (rise (l.take k)) (l.getD k 0) := by
  have : l.take (k + 1) = l.take k ++ [l.getD k 0] := by rw [List.take_add_one, List.getElem?_eq_getElem hk]; simp [List.getD, hk]
  rw [this]; simp [rise, List.foldl_append]
theorem rises_ext : ∀ (l m : List Int), Rises l → Rises m → (∀ y, y ∈ l ↔ y ∈ m) → l = m
  | [], [], _, _, _ => rfl
  | [], y :: m, _, _, h => by have := (h y).2 (by simp); cases this
  | x :: l, [], _, _, h => by have := (h x).1 (by simp); cases this
  | x :: l, y :: m, hl, hm, h => by
    have hl' := List.pairwise_cons.1 hl
    have hm' := List.pairwise_cons.1 hm
    have e : x = y := by
      rcases List.mem_cons.1 ((h x).1 (by simp)) with e | hx
      · exact e
      · rcases List.mem_cons.1 ((h y).2 (by simp)) with e | hy
        · exact e.symm
        · have := hl'.1 y hy; have := hm'.1 x hx; omega
    subst e
    rw [rises_ext l m hl'.2 hm'.2 fun z => ?_]
    have hz := h z
    simp only [List.mem_cons] at hz
    constructor
    · intro hzl
      rcases hz.1 (.inr hzl) with rfl | h
      · have := hl'.1 z hzl; omega
      · exact h
    · intro hzm
      rcases hz.2 (.inr hzm) with rfl | h
      · have := hm'.1 z hzm; omega
      · exact h
theorem rise_same (l : List Int) : rise l = l ↔ Rises l :=
  ⟨fun h => h ▸ rise_rises l, fun h => rises_ext _ _ (rise_rises l) h fun y => mem_rise l y⟩
theorem rises_at {l : List Int} : Rises l ↔ ∀ k, k + 1 < l.length → l.getD k 0 < l.getD (k + 1) 0 := by
  unfold Rises
  constructor
  · intro h k hk
    have := List.pairwise_iff_getElem.1 h k (k + 1) (by omega) hk (by omega)
    simpa [List.getD, show k < l.length by omega, hk] using this
  · intro h
    have key : ∀ d i, i + d + 1 < l.length → l.getD i 0 < l.getD (i + d + 1) 0 := by
      intro d
      induction d with
      | zero => intro i hi; exact h i hi
      | succ d ih =>
        intro i hi
        have h1 := ih i (by omega)
        have h2 := h (i + d + 1) hi
        rw [show i + (d + 1) + 1 = i + d + 1 + 1 by omega]
        omega
    refine List.pairwise_iff_getElem.2 fun i j hi hj hij => ?_
    obtain ⟨d, rfl⟩ : ∃ d, j = i + d + 1 := ⟨j - i - 1, by omega⟩
    have := key d i hj
    simpa [List.getD, hi, hj] using this

def mrg : List Int → List Int → List Int
  | [], ys => ys
  | x :: xs, [] => x :: xs
  | x :: xs, y :: ys => if x < y then x :: mrg xs (y :: ys) else if y < x then y :: mrg (x :: xs) ys else x :: mrg xs ys
  termination_by a b => a.length + b.length
def com : List Int → List Int → List Int
  | [], _ => []
  | _ :: _, [] => []
  | x :: xs, y :: ys => if x < y then com xs (y :: ys) else if y < x then com (x :: xs) ys else x :: com xs ys
  termination_by a b => a.length + b.length
theorem mrg_nil (a : List Int) : mrg a [] = a := by cases a <;> simp [mrg]
theorem com_nil (a : List Int) : com a [] = [] := by cases a <;> simp [com]
theorem mem_mrg : ∀ (n : Nat) (a b : List Int), a.length + b.length ≤ n → ∀ y, y ∈ mrg a b ↔ y ∈ a ∨ y ∈ b
  | _, [], b, _, y => by simp [mrg]
  | _, x :: a, [], _, y => by simp [mrg]
  | 0, x :: a, y :: b, h, _ => by simp at h
  | n + 1, x :: a, y :: b, h, z => by
    simp only [List.length_cons] at h
    rw [mrg]
    split
    · have := mem_mrg n a (y :: b) (by simp; omega) z
      simp only [List.mem_cons] at this ⊢
      rw [this]; constructor
      · rintro (h | h | h | h) <;> simp [h]
      · rintro ((h | h) | h | h) <;> simp [h]
    · split
      · have := mem_mrg n (x :: a) b (by simp; omega) z
        simp only [List.mem_cons] at this ⊢
        rw [this]; constructor
        · rintro (h | (h | h) | h) <;> simp [h]
        · rintro ((h | h) | h | h) <;> simp [h]
      · have := mem_mrg n a b (by omega) z
        obtain rfl : x = y := by omega
        simp only [List.mem_cons] at this ⊢
        rw [this]; constructor
        · rintro (h | h | h) <;> simp [h]
        · rintro ((h | h) | h | h) <;> simp [h]
theorem mrg_rises : ∀ (n : Nat) (a b : List Int), a.length + b.length ≤ n → Rises a → Rises b → Rises (mrg a b)
  | _, [], b, _, _, hb => by rw [mrg]; exact hb
  | _, x :: a, [], _, ha, _ => by rw [mrg]; exact ha
  | 0, x :: a, y :: b, h, _, _ => by simp at h
  | n + 1, x :: a, y :: b, h, ha, hb => by
    simp only [List.length_cons] at h
    have ha' := List.pairwise_cons.1 ha
    have hb' := List.pairwise_cons.1 hb
    rw [mrg]
    split
    · rename_i hxy
      refine List.pairwise_cons.2 ⟨fun z hz => ?_, mrg_rises n a (y :: b) (by simp; omega) ha'.2 hb⟩
      rcases (mem_mrg _ _ _ (Nat.le_refl _) z).1 hz with hz | hz
      · exact ha'.1 z hz
      · rcases List.mem_cons.1 hz with rfl | hz
        · exact hxy
        · have := hb'.1 z hz; omega
    · split
      · rename_i hxy
        refine List.pairwise_cons.2 ⟨fun z hz => ?_, mrg_rises n (x :: a) b (by simp; omega) ha hb'.2⟩
        rcases (mem_mrg _ _ _ (Nat.le_refl _) z).1 hz with hz | hz
        · rcases List.mem_cons.1 hz with rfl | hz
          · exact hxy
          · have := ha'.1 z hz; omega
        · exact hb'.1 z hz
      · obtain rfl : x = y := by omega
        refine List.pairwise_cons.2 ⟨fun z hz => ?_, mrg_rises n a b (by omega) ha'.2 hb'.2⟩
        rcases (mem_mrg _ _ _ (Nat.le_refl _) z).1 hz with hz | hz
        · exact ha'.1 z hz
        · exact hb'.1 z hz
theorem mrg_rise (a b : List Int) (ha : Rises a) (hb : Rises b) : mrg a b = rise (a ++ b) :=
  rises_ext _ _ (mrg_rises _ a b (Nat.le_refl _) ha hb) (rise_rises _) fun y => by rw [mem_mrg _ a b (Nat.le_refl _), mem_rise, List.mem_append]
theorem mrg_len : ∀ (n : Nat) (a b : List Int), a.length + b.length ≤ n → (mrg a b).length ≤ a.length + b.length
  | _, [], b, _ => by simp [mrg]
  | _, x :: a, [], _ => by simp [mrg]
  | 0, x :: a, y :: b, h => by simp at h
  | n + 1, x :: a, y :: b, h => by
    simp only [List.length_cons] at h
    rw [mrg]
    split
    · have := mrg_len n a (y :: b) (by simp; omega); simp only [List.length_cons] at this ⊢; omega
    · split
      · have := mrg_len n (x :: a) b (by simp; omega); simp only [List.length_cons] at this ⊢; omega
      · have := mrg_len n a b (by omega); simp only [List.length_cons] at this ⊢; omega
theorem com_filter : ∀ (n : Nat) (a b : List Int), a.length + b.length ≤ n → Rises a → Rises b → com a b = a.filter (fun x => decide (x ∈ b))
  | _, [], b, _, _, hb => by simp [com]
  | _, x :: a, [], _, ha, _ => by simp [com]
  | 0, x :: a, y :: b, h, _, _ => by simp at h
  | n + 1, x :: a, y :: b, h, ha, hb => by
    simp only [List.length_cons] at h
    have ha' := List.pairwise_cons.1 ha
    have hb' := List.pairwise_cons.1 hb
    rw [com]
    split
    · rename_i hxy
      rw [com_filter n a (y :: b) (by simp; omega) ha'.2 hb, List.filter_cons_of_neg]
      simp only [List.mem_cons, decide_eq_true_eq, not_or]
      exact ⟨by omega, fun hx => by have := hb'.1 x hx; omega⟩
    · split
      · rename_i hxy
        rw [com_filter n (x :: a) b (by simp; omega) ha hb'.2]
        apply List.filter_congr
        intro z hz
        have : ¬ z = y := by
          rcases List.mem_cons.1 hz with rfl | hz
          · omega
          · have := ha'.1 z hz; omega
        simp [this]
      · obtain rfl : x = y := by omega
        rw [com_filter n a b (by omega) ha'.2 hb'.2, List.filter_cons_of_pos (by simp)]
        congr 1
        apply List.filter_congr
        intro z hz
        have : ¬ z = x := by have := ha'.1 z hz; omega
        simp [this]
theorem com_common (a b : List Int) (ha : Rises a) (hb : Rises b) : com a b = a.filter (fun x => decide (x ∈ b)) := com_filter _ a b (Nat.le_refl _) ha hb
end Go.Proofs.Ytfjhiaafabmpbae
