/-
  PRODUCTS THAT GROW NO FURTHER, AND NUMBERS BY SIZES: plain facts on whole numbers. No function is named here.
-/
import Derived.Test.YthjmgahgfkecfabRows
import Derived.WalkKit
namespace Go.Proofs.Ythjmgahgfkecfab
open Go.RowKit

def addS (a b : Int) : Int := min (min a 4611686018427387904 + min b 4611686018427387904) 4611686018427387904
def mulS (a b : Int) : Int := min (min a 4611686018427387904 * min b 4611686018427387904) 4611686018427387904
theorem mul_nat (x y : Nat) :
    (0 < ((x * y / 18446744073709551616 : Nat) : Int) → 4611686018427387904 = min ((x : Int) * y) 4611686018427387904) ∧
    (¬ 0 < ((x * y / 18446744073709551616 : Nat) : Int) → min ((x * y % 18446744073709551616 : Nat) : Int) 4611686018427387904 = min ((x : Int) * y) 4611686018427387904) := by
  have e : (x : Int) * y = ((x * y : Nat) : Int) := by push_cast; rfl
  rw [e]
  generalize x * y = z
  constructor <;> intro h <;> omega
theorem div_gt {x y : Int} (hy : 0 < y) (h : 4611686018427387904 / y < x) : 4611686018427387904 < x * y := Int.lt_mul_of_ediv_lt hy h
theorem div_le {x y : Int} (hy : 0 < y) (h : x ≤ 4611686018427387904 / y) : x * y ≤ 4611686018427387904 := Int.mul_le_of_le_ediv hy h
theorem mulS_lo {a b : Int} (ha : 0 ≤ a) (hb : 0 ≤ b) : 0 ≤ mulS a b := by
  unfold mulS
  have := Int.mul_nonneg (show 0 ≤ min a 4611686018427387904 by omega) (show 0 ≤ min b 4611686018427387904 by omega)
  omega
theorem mulS_hi (a b : Int) : mulS a b ≤ 4611686018427387904 := by unfold mulS; omega
theorem mulS_one {a b : Int} (ha : 1 ≤ a) (hb : 1 ≤ b) : 1 ≤ mulS a b := by
  unfold mulS
  have := Int.mul_pos (show 0 < min a 4611686018427387904 by omega) (show 0 < min b 4611686018427387904 by omega)
  omega
theorem mulS_small {a b : Int} (ha : 0 ≤ a) (hb : 0 ≤ b) (h1 : 1 ≤ mulS a b) (h2 : mulS a b < 4611686018427387904) : 1 ≤ a ∧ a < 4611686018427387904 ∧ 1 ≤ b ∧ mulS a b = a * b := by
  have e : mulS a b = min a 4611686018427387904 * min b 4611686018427387904 := by unfold mulS at h2 ⊢; omega
  rw [e] at h1 h2 ⊢
  have xa : 0 ≤ min a 4611686018427387904 := by omega
  have xb : 0 ≤ min b 4611686018427387904 := by omega
  have ya : min a 4611686018427387904 ≤ a := by omega
  have yb : min b 4611686018427387904 ≤ b := by omega
  have za : min a 4611686018427387904 = a ∨ min a 4611686018427387904 = 4611686018427387904 := by omega
  have zb : min b 4611686018427387904 = b ∨ min b 4611686018427387904 = 4611686018427387904 := by omega
  generalize min a 4611686018427387904 = x at *
  generalize min b 4611686018427387904 = y at *
  have x1 : 1 ≤ x := by
    rcases Int.lt_or_le 0 x with h | h
    · omega
    · obtain rfl : x = 0 := by omega
      rw [Int.zero_mul] at h1; omega
  have y1 : 1 ≤ y := by
    rcases Int.lt_or_le 0 y with h | h
    · omega
    · obtain rfl : y = 0 := by omega
      rw [Int.mul_zero] at h1; omega
  have p1 : x * 1 ≤ x * y := Int.mul_le_mul_of_nonneg_left y1 xa
  have p2 : 1 * y ≤ x * y := Int.mul_le_mul_of_nonneg_right x1 xb
  rcases za with rfl | rfl
  · rcases zb with rfl | rfl
    · exact ⟨x1, by omega, y1, rfl⟩
    · omega
  · omega

/-- All of some sizes together, grown no further than the greatest. -/
def prodS (zs : List Int) : Int := zs.foldl mulS 1
/-- .. and grown as far as they go. -/
def prd : List Int → Int
  | [] => 1
  | z :: l => z * prd l
theorem prodS_snoc (zs : List Int) (z : Int) : prodS (zs ++ [z]) = mulS (prodS zs) z := by simp [prodS]
theorem foldS_lo : ∀ (zs : List Int) (a : Int), 0 ≤ a → (∀ z ∈ zs, 0 ≤ z) → 0 ≤ zs.foldl mulS a
  | [], a, ha, _ => ha
  | z :: l, a, ha, h => foldS_lo l _ (mulS_lo ha (h z (by simp))) fun y hy => h y (by simp [hy])
theorem foldS_hi : ∀ (zs : List Int) (a : Int), a ≤ 4611686018427387904 → zs.foldl mulS a ≤ 4611686018427387904
  | [], _, ha => ha
  | z :: l, a, _ => foldS_hi l _ (mulS_hi a z)
theorem foldS_one : ∀ (zs : List Int) (a : Int), 1 ≤ a → (∀ z ∈ zs, 1 ≤ z) → 1 ≤ zs.foldl mulS a
  | [], a, ha, _ => ha
  | z :: l, a, ha, h => foldS_one l _ (mulS_one ha (h z (by simp))) fun y hy => h y (by simp [hy])
theorem foldS_small : ∀ (zs : List Int) (a : Int), 0 ≤ a → (∀ z ∈ zs, 0 ≤ z) → 1 ≤ zs.foldl mulS a → zs.foldl mulS a < 4611686018427387904 → 1 ≤ a ∧ (∀ z ∈ zs, 1 ≤ z) ∧ zs.foldl mulS a = a * prd zs
  | [], a, _, _, h1, _ => ⟨h1, fun _ h => (by cases h), (by simp [prd])⟩
  | z :: l, a, ha, h, h1, h2 => by
    have hz := h z (by simp)
    obtain ⟨r1, r2, r3⟩ := foldS_small l (mulS a z) (mulS_lo ha hz) (fun y hy => h y (by simp [hy])) h1 h2
    have hlt : mulS a z < 4611686018427387904 := by
      have hp : ∀ l : List Int, (∀ y ∈ l, 1 ≤ y) → 1 ≤ prd l := by
        intro l
        induction l with
        | nil => intro _; simp [prd]
        | cons y l ih => intro h; have := Int.mul_pos (show 0 < y by have := h y (by simp); omega) (show 0 < prd l by have := ih fun z hz => h z (by simp [hz]); omega); unfold prd; omega
      have h3 := hp l r2
      have h4 : List.foldl mulS (mulS a z) l < 4611686018427387904 := h2
      have h5 := Int.mul_le_mul_of_nonneg_left h3 (show 0 ≤ mulS a z by omega)
      omega
    obtain ⟨s1, _, s3, s4⟩ := mulS_small ha hz r1 hlt
    refine ⟨s1, fun y hy => ?_, ?_⟩
    · rcases List.mem_cons.1 hy with rfl | hy
      · exact s3
      · exact r2 y hy
    · show List.foldl mulS (mulS a z) l = a * (z * prd l)
      rw [r3, s4, Int.mul_assoc]
theorem prodS_lo {zs : List Int} (h : ∀ z ∈ zs, 0 ≤ z) : 0 ≤ prodS zs := foldS_lo zs 1 (by decide) h
theorem prodS_hi (zs : List Int) : prodS zs ≤ 4611686018427387904 := foldS_hi zs 1 (by decide)
theorem prodS_one {zs : List Int} (h : ∀ z ∈ zs, 1 ≤ z) : 1 ≤ prodS zs := foldS_one zs 1 (by decide) h
theorem prodS_small {zs : List Int} (h : ∀ z ∈ zs, 0 ≤ z) (h1 : 1 ≤ prodS zs) (h2 : prodS zs < 4611686018427387904) : (∀ z ∈ zs, 1 ≤ z) ∧ prodS zs = prd zs := by
  obtain ⟨_, r, e⟩ := foldS_small zs 1 (by decide) h h1 h2
  exact ⟨r, by rw [prodS, e, Int.one_mul]⟩

/-- The sizes from place i on, together. -/
def tl (zs : List Int) (i : Nat) : Int := prd (zs.drop i)
theorem tl_end (zs : List Int) : tl zs zs.length = 1 := by simp [tl, prd]
theorem tl_step (zs : List Int) {i : Nat} (h : i < zs.length) : tl zs i = zs.getD i 0 * tl zs (i + 1) := by
  unfold tl
  rw [List.drop_eq_getElem_cons h]
  simp [prd, List.getD, h]
theorem getD_one {zs : List Int} (h : ∀ z ∈ zs, 1 ≤ z) {i : Nat} (hi : i < zs.length) : 1 ≤ zs.getD i 0 := h _ (by simp [List.getD, hi])
theorem prd_pos : ∀ {l : List Int}, (∀ z ∈ l, 1 ≤ z) → 1 ≤ prd l
  | [], _ => by simp [prd]
  | y :: l, h => by
    have := Int.mul_pos (show 0 < y by have := h y (by simp); omega) (show 0 < prd l by have := prd_pos (l := l) fun z hz => h z (by simp [hz]); omega)
    unfold prd; omega
theorem tl_pos {zs : List Int} (h : ∀ z ∈ zs, 1 ≤ z) (i : Nat) : 1 ≤ tl zs i := prd_pos fun z hz => h z (List.mem_of_mem_drop hz)

/-- The digit at place i. -/
def dig (k : Int) (zs : List Int) (i : Nat) : Int := (k / tl zs (i + 1)) % zs.getD i 0
theorem dig_lo {k : Int} {zs : List Int} (h : ∀ z ∈ zs, 1 ≤ z) {i : Nat} (hi : i < zs.length) : 0 ≤ dig k zs i := Int.emod_nonneg _ (by have := getD_one h hi; omega)
theorem dig_hi {k : Int} {zs : List Int} (h : ∀ z ∈ zs, 1 ≤ z) {i : Nat} (hi : i < zs.length) : dig k zs i < zs.getD i 0 := Int.emod_lt_of_pos _ (by have := getD_one h hi; omega)
theorem quo_step {k : Int} {zs : List Int} (h : ∀ z ∈ zs, 1 ≤ z) {i : Nat} (hi : i < zs.length) : k / tl zs (i + 1) / zs.getD i 0 = k / tl zs i := by
  rw [Int.ediv_ediv, if_neg (by have := tl_pos h (i + 1); omega), Int.sub_zero, tl_step zs hi, Int.mul_comm]
theorem quo_up {k : Int} {zs : List Int} (h : ∀ z ∈ zs, 1 ≤ z) {i : Nat} (hi : i < zs.length) : k / tl zs i * zs.getD i 0 + dig k zs i = k / tl zs (i + 1) := by
  rw [← quo_step h hi, dig, Int.mul_comm]
  exact Int.mul_ediv_add_emod _ _
theorem quo_lo {k : Int} (hk : 0 ≤ k) {zs : List Int} (h : ∀ z ∈ zs, 1 ≤ z) (i : Nat) : 0 ≤ k / tl zs i := Int.ediv_nonneg hk (by have := tl_pos h i; omega)
theorem quo_hi {k : Int} (hk : 0 ≤ k) (zs : List Int) (i : Nat) : k / tl zs i ≤ k := Int.ediv_le_self _ hk
theorem quo_start {k : Int} (hk : 0 ≤ k) {zs : List Int} (h : k < prd zs) : k / tl zs 0 = 0 := Int.ediv_eq_zero_of_lt hk (by simpa [tl] using h)
theorem quo_end (k : Int) (zs : List Int) : k / tl zs zs.length = k := by rw [tl_end, Int.ediv_one]

/-- The row of digits, from place j on; ahead of it the sizes. -/
def digRow (k : Int) (zs : List Int) (j : Nat) : List Value := (List.range zs.length).map fun i => Value.int .u64 (if i < j then zs.getD i 0 else dig k zs i)
theorem digRow_len (k : Int) (zs : List Int) (j : Nat) : (digRow k zs j).length = zs.length := by simp [digRow]
theorem digRow_start (k : Int) (zs : List Int) : digRow k zs zs.length = zs.map (Value.int .u64) := by
  apply List.ext_getElem?
  intro i
  by_cases hi : i < zs.length
  · simp only [digRow, List.getElem?_map, List.getElem?_range hi, Option.map_some, hi, if_true]
    simp [hi, List.getD]
  · rw [List.getElem?_eq_none (by rw [digRow_len]; omega), List.getElem?_eq_none (by simp; omega)]
theorem digRow_set (k : Int) (zs : List Int) (j : Nat) : (digRow k zs (j + 1)).set j (.int .u64 (dig k zs j)) = digRow k zs j := by
  apply List.ext_getElem?
  intro i
  rw [List.getElem?_set, digRow_len]
  by_cases hi : i < zs.length
  · simp only [digRow, List.getElem?_map, List.getElem?_range hi, Option.map_some]
    by_cases h0 : j = i
    · subst h0; simp [hi]
    · rw [if_neg h0]
      by_cases h1 : i < j
      · simp [h1, show i < j + 1 by omega]
      · simp [h1, show ¬ i < j + 1 by omega]
  · rw [List.getElem?_eq_none (l := digRow k zs (j + 1)) (by rw [digRow_len]; omega), List.getElem?_eq_none (l := digRow k zs j) (by rw [digRow_len]; omega)]
    split
    · rename_i h; rw [if_neg (by omega)]
    · rfl
def digs (k : Int) (zs : List Int) : List Int := (List.range zs.length).map (dig k zs)
theorem digs_len (k : Int) (zs : List Int) : (digs k zs).length = zs.length := by simp [digs]
theorem digs_at (k : Int) (zs : List Int) {i : Nat} (hi : i < zs.length) : (digs k zs).getD i 0 = dig k zs i := by
  simp [digs, List.getD, List.getElem?_range hi]
theorem digRow_end (k : Int) (zs : List Int) : digRow k zs 0 = (digs k zs).map (Value.int .u64) := by
  simp [digRow, digs, List.map_map]

/-- What digits come to, up to place i, as the machine reckons it. -/
def num (ds zs : List Int) : Nat → Int
  | 0 => 0
  | i + 1 => (num ds zs i * zs.getD i 0 + ds.getD i 0) % 18446744073709551616
def Fits (ds zs : List Int) (k : Nat) : Prop := ∀ i, i < k → ds.getD i 0 < zs.getD i 0
theorem num_digs {k : Int} {zs : List Int} (h : ∀ z ∈ zs, 1 ≤ z) (hk : 0 ≤ k) (hk2 : k < prd zs) (hk3 : k < 4611686018427387904) : ∀ i, i ≤ zs.length → num (digs k zs) zs i = k / tl zs i
  | 0, _ => by rw [quo_start hk hk2]; rfl
  | i + 1, hi => by
    have e := quo_up (k := k) h (i := i) (by omega)
    have l := quo_lo hk h (i + 1)
    have u := quo_hi hk zs (i + 1)
    show (num (digs k zs) zs i * zs.getD i 0 + (digs k zs).getD i 0) % 18446744073709551616 = _
    rw [num_digs h hk hk2 hk3 i (by omega), digs_at k zs (by omega), e]
    exact Int.emod_eq_of_lt l (by omega)
theorem fits_digs {k : Int} {zs : List Int} (h : ∀ z ∈ zs, 1 ≤ z) : Fits (digs k zs) zs zs.length := fun i hi => by rw [digs_at k zs hi]; exact dig_hi h hi
/-- The same, as far as it goes. -/
def exa (ds zs : List Int) : Nat → Int
  | 0 => 0
  | i + 1 => exa ds zs i * zs.getD i 0 + ds.getD i 0
theorem exa_lo {ds zs : List Int} (hd : ∀ i, 0 ≤ ds.getD i 0) (h : ∀ z ∈ zs, 1 ≤ z) : ∀ i, i ≤ zs.length → 0 ≤ exa ds zs i
  | 0, _ => by simp [exa]
  | i + 1, hi => by
    have := Int.mul_nonneg (exa_lo hd h i (by omega)) (show 0 ≤ zs.getD i 0 by have := getD_one h (i := i) (by omega); omega)
    have := hd i
    unfold exa; omega
theorem exa_parts {ds zs : List Int} (hd : ∀ i, 0 ≤ ds.getD i 0) (h : ∀ z ∈ zs, 1 ≤ z) (hf : Fits ds zs zs.length) : ∀ j i, i + j = zs.length → ∃ r, 0 ≤ r ∧ r < tl zs i ∧ exa ds zs zs.length = exa ds zs i * tl zs i + r
  | 0, i, hi => by
    obtain rfl : i = zs.length := by omega
    exact ⟨0, Int.le_refl _, by rw [tl_end]; decide, by rw [tl_end]; omega⟩
  | j + 1, i, hi => by
    obtain ⟨r, h1, h2, h3⟩ := exa_parts hd h hf j (i + 1) (by omega)
    have hs := tl_step zs (i := i) (by omega)
    have hp := tl_pos h (i + 1)
    have hfi := hf i (by omega)
    have hdi := hd i
    refine ⟨ds.getD i 0 * tl zs (i + 1) + r, ?_, ?_, ?_⟩
    · have := Int.mul_nonneg hdi (show 0 ≤ tl zs (i + 1) by omega)
      omega
    · rw [hs]
      have := Int.mul_le_mul_of_nonneg_right (show ds.getD i 0 + 1 ≤ zs.getD i 0 by omega) (show 0 ≤ tl zs (i + 1) by omega)
      rw [Int.add_mul, Int.one_mul] at this
      omega
    · rw [h3, hs]
      show (exa ds zs i * zs.getD i 0 + ds.getD i 0) * tl zs (i + 1) + r = _
      rw [Int.add_mul, Int.mul_assoc]
      omega
theorem exa_quo {ds zs : List Int} (hd : ∀ i, 0 ≤ ds.getD i 0) (h : ∀ z ∈ zs, 1 ≤ z) (hf : Fits ds zs zs.length) {i : Nat} (hi : i ≤ zs.length) : exa ds zs zs.length / tl zs i = exa ds zs i := by
  obtain ⟨r, h1, h2, h3⟩ := exa_parts hd h hf (zs.length - i) i (by omega)
  have hp := tl_pos h i
  rw [h3, Int.add_comm, Int.add_mul_ediv_right _ _ (by omega), Int.ediv_eq_zero_of_lt h1 h2, Int.zero_add]
theorem exa_hi {ds zs : List Int} (hd : ∀ i, 0 ≤ ds.getD i 0) (h : ∀ z ∈ zs, 1 ≤ z) (hf : Fits ds zs zs.length) : exa ds zs zs.length < prd zs := by
  obtain ⟨r, h1, h2, h3⟩ := exa_parts hd h hf zs.length 0 (by omega)
  rw [h3]
  simp only [exa, Int.zero_mul, Int.zero_add]
  simpa [tl] using h2
theorem digs_exa {ds zs : List Int} (hl : ds.length = zs.length) (hd : ∀ i, 0 ≤ ds.getD i 0) (h : ∀ z ∈ zs, 1 ≤ z) (hf : Fits ds zs zs.length) : digs (exa ds zs zs.length) zs = ds := by
  apply List.ext_getElem?
  intro i
  by_cases hi : i < zs.length
  · have e : dig (exa ds zs zs.length) zs i = ds.getD i 0 := by
      unfold dig
      rw [exa_quo hd h hf (by omega)]
      show (exa ds zs i * zs.getD i 0 + ds.getD i 0) % zs.getD i 0 = _
      rw [Int.add_comm, Int.add_mul_emod_self_right]
      exact Int.emod_eq_of_lt (hd i) (hf i hi)
    simp only [digs, List.getElem?_map, List.getElem?_range hi, Option.map_some, e]
    simp [List.getD, show i < ds.length by omega]
  · rw [List.getElem?_eq_none (by rw [digs_len]; omega), List.getElem?_eq_none (by omega)]
theorem num_exa {ds zs : List Int} (hd : ∀ i, 0 ≤ ds.getD i 0) (h : ∀ z ∈ zs, 1 ≤ z) (hf : Fits ds zs zs.length) (hp : prd zs ≤ 4611686018427387904) : ∀ i, i ≤ zs.length → num ds zs i = exa ds zs i
  | 0, _ => rfl
  | i + 1, hi => by
    have l := exa_lo hd h (i + 1) hi
    have u : exa ds zs (i + 1) ≤ exa ds zs zs.length := by
      rw [← exa_quo hd h hf hi]
      exact Int.ediv_le_self _ (exa_lo hd h _ (Nat.le_refl _))
    have t := exa_hi hd h hf
    show (num ds zs i * zs.getD i 0 + ds.getD i 0) % 18446744073709551616 = _
    rw [num_exa hd h hf hp i (by omega)]
    exact Int.emod_eq_of_lt l (by show exa ds zs (i + 1) < _; omega)
end Go.Proofs.Ythjmgahgfkecfab
