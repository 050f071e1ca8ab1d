/-
  THE WORDS OF A SET, WITHOUT THOSE THAT ARE 0 AT THE END: by contract.
-/
import Derived.Test.YtieinedancdokaaDoorPB
import Derived.Test.YtieinedancdokaaDoorPD
import Derived.Test.YtieinedancdokaaDoorPE
import Derived.Test.YtieinedancdokaaDoorPF
import Derived.Test.YtieinedancdokaaDoorPC
namespace Go.Proofs.YtieinedancdokaaDoor
open Go.ChangeShapes Go.WideShapes Go.ChangeAt Go.RowKit

/-- Any words, laid where a set's words are. -/
theorem copied_wv (ws : List Nat) : (splice (wv (List.replicate ws.length 0)).toList 0 (wv ws).toList).toArray = wv ws := by
  rw [splice_wv]; simp
/-- How many words are left. -/
structure Trim (ws : List Nat) (m : Nat) : Prop where
  le : m ≤ ws.length
  zero : ∀ i, m ≤ i → ws.getD i 0 = 0
  last : 0 < m → ws.getD (m - 1) 0 ≠ 0
theorem wv_get (ws : List Nat) (j : Nat) (hj : j < ws.length) : (wv ws)[j]? = some (.int .u64 ((ws.getD j 0 : Nat) : Int)) := by simp [wv, hj, List.getD]
theorem wv_one (ws : List Nat) : ∀ v ∈ (wv ws).toList, v.oneCell' = true := fun v hv => by
  simp only [wv, List.mem_map] at hv
  obtain ⟨x, _, rfl⟩ := hv
  rfl
set_option maxHeartbeats 1600000 in
theorem words_c (b : Nat) (g : Option Nat) (ws : List Nat) (w : World) (hf : Fit ws) (h : SetAt w b g ws) : Calls Tryd.prog 16 #[.pointer (some ⟨b, 0, none⟩)] w fun e w' =>
    ∃ m x, e = .returned (.slice (some ⟨x, 0, none⟩) m m) ∧ Trim ws m ∧ w.heap.size ≤ x ∧ w'.heap[x]? = some (.cells (wv (ws.take m)) 42) ∧ Below w.heap.size w w' := by
  have hw := wide_c b g ws w h
  have hlen := hf.short
  have c0 := h.cell0
  have h := hidden h
  go_enter Tryd.func16, Tryd.ntmps16
  go_wp2_with fail
  refine hw.mono ?_
  rintro e w' ⟨rfl, rfl⟩
  clear hw
  go_wp2_with fail
  go_loop [3] (fun u => ∃ j : Nat, j ≤ ws.length ∧ u = .int .i64 (j : Int) ∧ Hid (∀ i, j ≤ i → ws.getD i 0 = 0)) (fun u => (intOf u).toNat)
  case atStart => exact ⟨ws.length, Nat.le_refl _, rfl, (fun i hi => by rw [List.getD_eq_getElem?_getD, List.getElem?_eq_none hi]; rfl : ∀ i, ws.length ≤ i → ws.getD i 0 = 0)⟩
  case round =>
    obtain ⟨j, hj, rfl, hz⟩ := hrel
    by_cases h0 : j = 0
    · subst h0
      have hmk : ∀ w, (Instr.makeSlice 34 (.int .i64 0) (.int .i64 0)).run Tryd.prog w = .ok (.slice (some ⟨w.heap.size, 0, none⟩) 0 0) (w.alloc (.cells (wv (List.replicate 0 0)) 42)) := fun w => makeW 0 w (by omega)
      have hT : Hid (Trim ws 0) := ⟨Nat.zero_le _, hz.out, fun h => absurd h (by omega)⟩
      have hB1 : Hid (Below w'.heap.size w' (w'.alloc (.cells (wv (List.replicate 0 0)) 42))) := (Below.refl _ _).alloc (Nat.le_refl _) _
      have k0 : Hid ((w'.alloc (.cells (wv (List.replicate 0 0)) 42)).heap[w'.heap.size]? = some (.cells (wv (ws.take 0)) 42)) := by
        show _ = _
        rw [List.take_zero]; exact heap_alloc_new _ _
      clear hz
      go_wp2
      go_ret
      exact ⟨0, _, rfl, hT.out, Nat.le_refl _, k0.out, hB1.out⟩
    · have hj1 : (0 : Int) < (j : Int) := by omega
      cases g with
      | none => have hn := h.out.empty rfl; subst hn; simp at hj; omega
      | some g =>
        simp only [rowV] at c0
        have c1 := h.out.cell (j - 1) (by omega)
        have hnx : ws.getD (j - 1) 0 = 0 → Hid (∀ i, j - 1 ≤ i → ws.getD i 0 = 0) := fun hx i hi => by
          rcases Nat.lt_or_ge i j with h1 | h1
          · obtain rfl : i = j - 1 := by omega
            exact hx
          · exact hz.out i h1
        have e1 : (j : Int) - 1 = ((j - 1 : Nat) : Int) := by omega
        have e2 : wrap64 ((j - 1 : Nat) : Int) = ((j - 1 : Nat) : Int) := IntWalk.wrap64_in _ (by omega)
        have hj2 : ((j - 1 : Nat) : Int) < (ws.length : Int) := by omega
        by_cases hx : ws.getD (j - 1) 0 = 0
        · have hnx := hnx hx
          rw [hx] at c1
          clear hx hz
          generalize hq : j - 1 = q at *
          go_wp2
          go_round
          case rel => exact ⟨q, by omega, rfl, hnx⟩
          case measure => simp [intOf]; omega
        · have hT : Hid (Trim ws j) := ⟨hj, hz.out, fun _ => hx⟩
          have hxb : (((ws.getD (j - 1) 0 : Nat) : Int) == 0) = false := beq_eq_false_iff_ne.2 (fun e => hx (by omega))
          generalize ws.getD (j - 1) 0 = x at *
          clear hz hx hnx
          generalize hq : j - 1 = q at *
          have hmk := fun w => makeW j w (by omega)
          have hblt := h.out.lt
          have c0a : ∀ O, (w'.alloc O).cell? ⟨b, 0, none⟩ = some (.slice (some ⟨g, 0, none⟩) ws.length ws.length) := fun O => (((Below.refl w'.heap.size w').alloc (Nat.le_refl _) O).cell (p := ⟨b, 0, none⟩) hblt).trans c0
          have hrow := h.out.row g rfl
          have hglt := h.out.glt
          have hcells : ∀ O, ∀ i v, (wv (ws.take j)).toList[i]? = some v → (w'.alloc O).cell? ((⟨g, 0, none⟩ : Addr).add i) = some v := fun O i v hv => by
            rw [add_plain, Nat.zero_add]
            simp only [World.cell?, (heap_alloc_old w' O hglt).trans hrow]
            have hi : i < j := by
              have := (List.getElem?_eq_some_iff.1 hv).1
              simp [wv] at this; omega
            rw [show (wv ws)[i]? = (wv (ws.take j))[i]? by simp [wv, hi]]
            simpa using hv
          have hcl : (wv (ws.take j)).toList.length = j := by simp [wv]; omega
          have hzl : (wv (List.replicate j 0)).size = j := by simp [wv]
          have hone := wv_one (ws.take j)
          have hB1 : Below w'.heap.size w' (w'.alloc (.cells (wv (List.replicate j 0)) 42)) := (Below.refl _ _).alloc (Nat.le_refl _) _
          have k0 : (w'.alloc (.cells (wv (List.replicate j 0)) 42)).heap[w'.heap.size]? = some (.cells (wv (List.replicate j 0)) 42) := heap_alloc_new _ _
          have hzl2 : (wv (List.replicate j 0)).toList.length = j := by simp [wv]
          have hmin : (wv (ws.take j)).toList.length = Nat.min j j := by rw [hcl]; exact (Nat.min_self _).symm
          have hpos : 0 < (wv (ws.take j)).toList.length → some (⟨w'.heap.size, 0, none⟩ : Addr) = some ⟨w'.heap.size, 0, none⟩ ∧ ∃ ad, some (⟨g, 0, none⟩ : Addr) = some ad ∧ ∀ i v, (wv (ws.take j)).toList[i]? = some v → (w'.alloc (.cells (wv (List.replicate j 0)) 42)).cell? (ad.add i) = some v := fun _ => ⟨rfl, _, rfl, hcells _⟩
          have hfit : 0 + (wv (ws.take j)).toList.length ≤ (wv (List.replicate j 0)).toList.length := by rw [hcl, hzl2]; omega
          have hinfo : (Tryd.prog.info? 42).map (·.size) = some 1 := by kernel_rfl
          have hB1' := hidden hB1
          replace hpos := hidden hpos
          replace hfit := hidden hfit
          replace hmin := hidden hmin
          replace k0 : Hid ((w'.alloc (.cells (wv (List.replicate j 0)) 42)).heap[w'.heap.size]? = some (.cells (wv (List.replicate j 0)).toList.toArray 42 (0, 0))) := heap_alloc_new _ _
          replace hone := hidden hone
          replace hinfo := hidden hinfo
          replace hcl := hidden hcl
          clear hcells hzl hzl2
          have hjn : (j : Int) ≤ (ws.length : Int) := by omega
          have hglt := hidden hglt
          have hblt := hidden hblt
          clear hB1 h hf hrow
          go_wp2_with (with_reducible refine wpList_copy_splice rfl (.tmp 26) (.tmp 32) 34 34 rfl 42 Tryd.underlying34 hinfo.out (some ⟨w'.heap.size, 0, none⟩) (some ⟨g, 0, none⟩) j j j ws.length rfl rfl w'.heap.size 0 (wv (List.replicate j 0)).toList 42 k0.out (wv (ws.take j)).toList hmin.out hpos.out hfit.out hone.out w'.heap.size (w'.alloc (.cells (wv (List.replicate j 0)) 42)) (Below.refl _ _) (Nat.le_refl _) ?_; intro w4 hg4 hB4)
          have hst : Hid (w4.heap[w'.heap.size]? = some (.cells (wv (ws.take j)) 42)) := by
            have h4 := hg4.out
            have := copied_wv (ws.take j)
            rw [List.length_take, Nat.min_eq_left hj] at this
            rw [this] at h4
            exact h4
          have hbl := hidden (hB1'.out.trans hB4)
          clear hmk c0a k0 c0 c1 hB4 hg4
          go_wp2
          go_ret
          exact ⟨j, _, rfl, hT.out, Nat.le_refl _, hst.out, hbl.out⟩
end Go.Proofs.YtieinedancdokaaDoor
/-
  WORDS WITHOUT ZEROS AT THEIR END: which are the same. Mathematics alone.
-/
namespace Go.Proofs.YtieinedancdokaaDoor
open Go.ChangeShapes Go.WideShapes Go.ChangeAt Go.RowKit

theorem words_eq {xs ys : List Nat} (hx : Fit xs) (hy : Fit ys) (h : ∀ k, has xs k = has ys k) (i : Nat) : xs.getD i 0 = ys.getD i 0 :=
  eq_bits (hx.at i) (hy.at i) fun j hj => by
    have := h (64 * i + j)
    unfold has at this
    rwa [show (64 * i + j) / 64 = i by omega, show (64 * i + j) % 64 = j by omega] at this
theorem trim_same {xs ys : List Nat} {m n : Nat} (hx : Fit xs) (hy : Fit ys) (h1 : Trim xs m) (h2 : Trim ys n) : xs.take m = ys.take n ↔ ∀ k, has xs k = has ys k := by
  have getT : ∀ (zs : List Nat) (l i : Nat), i < l → (zs.take l).getD i 0 = zs.getD i 0 := fun zs l i hi => by
    rw [List.getD_eq_getElem?_getD, List.getD_eq_getElem?_getD, List.getElem?_take, if_pos hi]
  constructor
  · intro h k
    have hl : m = n := by
      have := congrArg List.length h
      rw [List.length_take, List.length_take, Nat.min_eq_left h1.le, Nat.min_eq_left h2.le] at this
      exact this
    subst hl
    unfold has
    congr 1
    by_cases hk : k / 64 < m
    · rw [← getT xs m _ hk, ← getT ys m _ hk, h]
    · rw [h1.zero _ (by omega), h2.zero _ (by omega)]
  · intro h
    have hw := words_eq hx hy h
    have hmn : m = n := by
      rcases Nat.lt_trichotomy m n with hlt | he | hlt
      · have := h2.last (by omega)
        rw [← hw, h1.zero (n - 1) (by omega)] at this
        exact absurd rfl this
      · exact he
      · have := h1.last (by omega)
        rw [hw, h2.zero (m - 1) (by omega)] at this
        exact absurd rfl this
    subst hmn
    have e1 := h1.le
    have e2 := h2.le
    apply List.ext_getElem
    · rw [List.length_take, List.length_take]; omega
    · intro i h3 h4
      have hi : i < m := by rw [List.length_take] at h3; omega
      have := hw i
      rw [← getT xs m i hi, ← getT ys m i hi, List.getD_eq_getElem?_getD, List.getD_eq_getElem?_getD, List.getElem?_eq_getElem h3, List.getElem?_eq_getElem h4] at this
      exact this
/-- A rising list is empty just if nothing holds of any number. -/
theorem L_empty (p : Nat → Bool) : (L p).length = 0 ↔ ∀ k, k < 65536 → p k = false := by
  rw [List.length_eq_zero_iff]
  constructor
  · intro h k hk
    cases hp : p k with
    | false => rfl
    | true =>
      have := mem_L.2 ⟨hk, hp⟩
      rw [h] at this
      cases this
  · intro h
    exact List.filter_eq_nil_iff.2 fun k hk => by rw [h k (List.mem_range.1 hk)]; simp
theorem has_high {ws : List Nat} (hf : Fit ws) {k : Nat} (hk : 65536 ≤ k) : has ws k = false := has_end (by have := hf.short; omega)
end Go.Proofs.YtieinedancdokaaDoor
/-
  THE WORDS OF A RISING LIST, one number after the other. Mathematics alone.
-/
namespace Go.Proofs.YtieinedancdokaaDoor
open Go.ChangeShapes Go.WideShapes Go.ChangeAt Go.RowKit

theorem add_or (x k : Nat) (h : x.testBit k = false) : x + 2 ^ k = x ||| 2 ^ k := by
  have hb : x = 2 ^ (k + 1) * (x / 2 ^ (k + 1)) + x % 2 ^ k := by
    have h1 : x % 2 ^ (k + 1) = x % 2 ^ k := by
      apply Nat.eq_of_testBit_eq
      intro j
      rw [Nat.testBit_mod_two_pow, Nat.testBit_mod_two_pow]
      by_cases hj : j < k
      · simp [hj, show j < k + 1 by omega]
      · by_cases hk : j = k
        · subst hk; simp [h]
        · simp [show ¬ j < k by omega, show ¬ j < k + 1 by omega]
    have := Nat.div_add_mod x (2 ^ (k + 1))
    omega
  apply Nat.eq_of_testBit_eq
  intro j
  rw [Nat.testBit_or, Nat.testBit_two_pow]
  have hl : x % 2 ^ k + 2 ^ k < 2 ^ (k + 1) := by
    have := Nat.mod_lt x (Nat.two_pow_pos k)
    rw [Nat.pow_succ]; omega
  have hl0 : x % 2 ^ k < 2 ^ (k + 1) := by omega
  have e1 : x + 2 ^ k = 2 ^ (k + 1) * (x / 2 ^ (k + 1)) + (2 ^ k * 1 + x % 2 ^ k) := by omega
  rw [e1, Nat.testBit_two_pow_mul_add _ (by omega)]
  conv => rhs; rw [hb, Nat.testBit_two_pow_mul_add _ hl0]
  by_cases hj : j < k + 1
  · rw [if_pos hj, if_pos hj, Nat.testBit_two_pow_mul_add _ (Nat.mod_lt x (Nat.two_pow_pos k))]
    by_cases hk : j < k
    · rw [if_pos hk]
      have : decide (k = j) = false := by simp; omega
      rw [this, Bool.or_false]
    · obtain rfl : j = k := by omega
      rw [if_neg (by omega)]; simp
  · rw [if_neg hj, if_neg hj]
    have : decide (k = j) = false := by simp; omega
    rw [this, Bool.or_false]
/-- The words of some numbers, none of them 0 at the end. -/
structure Wd (us t : List Nat) : Prop where
  fit : Fit us
  is : ∀ k, has us k = t.contains k
  last : 0 < us.length → us.getD (us.length - 1) 0 ≠ 0
theorem Wd.none : Wd [] [] := ⟨⟨by simp, by simp⟩, fun k => by rw [has_end (by simp)]; rfl, fun h => by simp at h⟩
theorem bit_of {x : Nat} (hx : x < 18446744073709551616) (h : x ≠ 0) : ∃ j, j < 64 ∧ x.testBit j = true := by
  rcases Classical.em (∃ j, j < 64 ∧ x.testBit j = true) with h1 | h1
  · exact h1
  · exfalso
    apply h
    refine eq_bits hx (by omega) fun j hj => ?_
    cases hb : x.testBit j with
    | false => simp
    | true => exact absurd ⟨j, hj, hb⟩ h1
theorem Wd.short {us t : List Nat} (h : Wd us t) {y : Nat} (ht : ∀ k ∈ t, k < y) : us.length ≤ y / 64 + 1 := by
  rcases Nat.eq_zero_or_pos us.length with h0 | h0
  · omega
  · obtain ⟨j, hj, hb⟩ := bit_of (h.fit.at (us.length - 1)) (h.last h0)
    have hk : has us (64 * (us.length - 1) + j) = true := by
      unfold has
      rw [show (64 * (us.length - 1) + j) / 64 = us.length - 1 by omega, show (64 * (us.length - 1) + j) % 64 = j by omega]
      exact hb
    rw [h.is, List.contains_iff_mem] at hk
    have := ht _ hk
    omega
/-- One more number, greater than all. -/
theorem Wd.step {us t : List Nat} (h : Wd us t) {y : Nat} (hy : y < 65536) (ht : ∀ k ∈ t, k < y) :
    Wd ((us ++ List.replicate (y / 64 + 1 - us.length) 0).set (y / 64) ((us ++ List.replicate (y / 64 + 1 - us.length) 0).getD (y / 64) 0 + 2 ^ (y % 64))) (t ++ [y]) ∧
      (us ++ List.replicate (y / 64 + 1 - us.length) 0).length = y / 64 + 1 := by
  have hs := h.short ht
  have hl : (us ++ List.replicate (y / 64 + 1 - us.length) 0).length = y / 64 + 1 := by simp; omega
  have hz := fun k => has_zeros us (y / 64 + 1 - us.length) k
  have hf := h.fit.zeros (y / 64 + 1 - us.length) (by omega)
  have hno : ((us ++ List.replicate (y / 64 + 1 - us.length) 0).getD (y / 64) 0).testBit (y % 64) = false := by
    have e := hz y
    rw [h.is] at e
    have hc : t.contains y = false := by
      cases hc : t.contains y with
      | false => rfl
      | true =>
        have := ht y (by simpa using hc)
        omega
    rw [hc] at e
    exact e
  refine ⟨?_, hl⟩
  rw [add_or _ _ hno]
  generalize us ++ List.replicate (y / 64 + 1 - us.length) 0 = vs at *
  refine ⟨hf.set _ _ (or_lt _ _ (hf.at _) (by omega)), fun k => ?_, fun _ => ?_⟩
  · rw [has_set_or vs y k (by omega), hz, h.is]
    rw [Bool.eq_iff_iff]; simp
  · rw [List.length_set, hl, Nat.add_sub_cancel, getD_set _ _ _ _ (by omega), if_pos rfl]
    intro e
    have := congrArg (Nat.testBit · (y % 64)) e
    simp [Nat.testBit_or] at this
end Go.Proofs.YtieinedancdokaaDoor
/-
  THE WORDS OF A RISING LIST, as the reference makes them: by contract.
-/
namespace Go.Proofs.YtieinedancdokaaDoor
open Go.ChangeShapes Go.WideShapes Go.ChangeAt Go.RowKit

def wl (us : List Nat) : List Value := us.map fun (x : Nat) => Value.int .u64 (x : Int)
theorem wl_len (us : List Nat) : (wl us).length = us.length := by simp [wl]
theorem wl_snoc (us : List Nat) (c : Nat) : wl (us ++ List.replicate (c + 1) 0) = wl (us ++ List.replicate c 0) ++ [.int .u64 0] := by
  rw [List.replicate_succ', ← List.append_assoc]; simp [wl]
theorem range_pair (N : Nat) (r : Nat → Bool) : ((List.range N).filter r).Pairwise (· < ·) := List.Pairwise.filter _ List.pairwise_lt_range
theorem L_pair (r : Nat → Bool) : (L r).Pairwise (· < ·) := range_pair 65536 r
theorem L_rises {r : Nat → Bool} {j : Nat} (hj : j < (L r).length) : ∀ k ∈ (L r).take j, k < (L r).getD j 0 := by
  intro k hk
  have hp : (L r).Pairwise (· < ·) := L_pair r
  generalize L r = xs at *
  have e : xs.getD j 0 = xs[j] := by rw [List.getD_eq_getElem?_getD, List.getElem?_eq_getElem hj]; rfl
  rw [e]
  obtain ⟨i, hi, rfl⟩ := List.getElem_of_mem hk
  rw [List.length_take] at hi
  rw [List.getElem_take]
  exact List.pairwise_iff_getElem.1 hp i j (by omega) hj (by omega)
theorem own_slice {w : World} {base : Nat} {e : TypeId} {v : Value} {n : Nat} {xs : List Value} (h : w.ownsRow base e 1 v n xs) : ∃ a c, v = .slice a n c := by
  obtain ⟨a, c, h1, _⟩ := holds_of_owns h
  have h2 := h.1
  rw [Nat.mul_one] at h2
  exact ⟨a, c, by rw [h1, h2]⟩
theorem wl_set (us : List Nat) (i x : Nat) : (wl us).set i (.int .u64 (x : Int)) = wl (us.set i x) := by
  simp [wl, List.map_set]
theorem wl_at (us : List Nat) (i : Nat) (h : i < us.length) : (wl us)[i]? = some (.int .u64 ((us.getD i 0 : Nat) : Int)) := by
  simp [wl, h, List.getD]
/-- One step of the words, over the numbers of one element. -/
structure Bit (us t : List Nat) (y yi yr : Nat) : Prop where
  fitI : yi < 1024
  fitR : yr < 64
  q1 : (y : Int) / 64 = (yi : Int)
  q2 : (y : Int) % 64 = (yr : Int)
  short : us.length ≤ yi + 1
  len : (us ++ List.replicate (yi + 1 - us.length) 0).length = yi + 1
  sum : (us ++ List.replicate (yi + 1 - us.length) 0).getD yi 0 + 2 ^ yr < 18446744073709551616
  step : Wd ((us ++ List.replicate (yi + 1 - us.length) 0).set yi ((us ++ List.replicate (yi + 1 - us.length) 0).getD yi 0 + 2 ^ yr)) t
theorem bit_step {us t : List Nat} (h : Wd us t) {y : Nat} (hy : y < 65536) (ht : ∀ k ∈ t, k < y) {t2 : List Nat} (h2 : t2 = t ++ [y]) : ∃ yi yr : Nat, Bit us t2 y yi yr := by
  subst h2
  have h1 := h.step hy ht
  have h3 := h1.1.fit.at (y / 64)
  rw [getD_set _ _ _ _ (by rw [h1.2]; omega), if_pos rfl] at h3
  exact ⟨y / 64, y % 64, by omega, by omega, by omega, by omega, h.short ht, h1.2, h3, h1.1⟩
def sliceLen : Value → Nat
  | .slice _ n _ => n
  | _ => 0
set_option maxHeartbeats 1600000 in
theorem rwords_c (v : Value) (r : Nat → Bool) (w : World) (h1 : Holds w v (ints (L r))) : Calls Tryd.prog 19 #[v] w fun e w' =>
    ∃ v', e = .returned v' ∧ ∃ us, Wd us (L r) ∧ Holds w' v' (wl us) ∧ Below w.heap.size w w' := by
  obtain ⟨i0, hi, hz0, hz1, hz2⟩ := info_parts infoU64
  obtain ⟨a, cap, rfl, hrow⟩ := h1
  rw [ints_len]
  have hlp := L_len r
  have hy : Hid (∀ j, j < (L r).length → (L r).getD j 0 < 65536 ∧ ∀ k ∈ (L r).take j, k < (L r).getD j 0) := fun j hj => ⟨L_getD hj, L_rises hj⟩
  generalize L r = xs at *
  replace hlp := hidden hlp
  go_enter Tryd.func19, Tryd.ntmps19
  go_wp2_with fail
  go_loopw [3, 4] (fun u i wr => ∃ (j : Nat) (us : List Nat), j ≤ xs.length ∧ i = .int .i64 (j : Int) ∧ Hid (Wd us (xs.take j)) ∧ Hid (wr.ownsRow w.heap.size 42 1 u us.length (wl us)) ∧ Hid (Below w.heap.size w wr)) (fun _ i _ => xs.length - (intOf i).toNat)
  case atStart => exact ⟨0, [], Nat.zero_le _, rfl, Wd.none, World.ownsRow_made w #[] 0 (Nat.le_refl _) (by unfold maxLen; omega) rfl, (Below.refl _ _).alloc (Nat.le_refl _) _⟩
  case round =>
    obtain ⟨j, us, hj, rfl, hW, hown, hB⟩ := hrel
    by_cases hlt : j < xs.length
    · rcases hrow with h0 | ⟨b, off, rfl, hb, hc⟩
      · have := congrArg List.length h0
        rw [ints_len] at this; simp only [List.length_nil] at this; omega
      obtain ⟨hy1, hy2⟩ := hy.out j hlt
      have hcx0 := hidden (hc j _ (ints_at xs j hlt))
      have hj1 : (j : Int) < (xs.length : Int) := by omega
      have hj9 : (j : Int) ≤ 65536 := by have := hlp.out; omega
      have hts := take_snocN xs j hlt
      obtain ⟨y, hyd⟩ : ∃ y, xs.getD j 0 = y := ⟨_, rfl⟩
      rw [hyd] at hy1 hy2 hcx0 hts
      clear hyd
      obtain ⟨yi, yr, hbit⟩ := bit_step hW.out hy1 hy2 hts
      have q1 := hbit.q1
      have q2 := hbit.q2
      have hyi := hbit.fitI
      have hyr := hbit.fitR
      have hshort := hbit.short
      replace hbit := hidden hbit
      have hbB : Hid (b < w.heap.size) := hb
      clear hc hts hy2 hb hj hlt hW
      have hy0 : (0 : Int) ≤ (y : Int) := by omega
      have hy9 : (y : Int) ≤ 65535 := by omega
      clear hy1
      go_wp2_with fail
      go_loopw [3] (fun u wr => ∃ (m : Nat) (a : Option Addr) (c : Nat), us.length ≤ m ∧ m ≤ yi + 1 ∧ u = .slice a m c ∧ Hid (wr.ownsRow w.heap.size 42 1 (.slice a m c) m (wl (us ++ List.replicate (m - us.length) 0))) ∧ Hid (Below w.heap.size w wr)) (fun u _ => yi + 1 - sliceLen u)
      case atStart =>
        obtain ⟨a0, c0, e0⟩ := own_slice hown.out
        have hown1 := hown.out
        rw [e0] at hown1
        exact ⟨us.length, a0, c0, Nat.le_refl _, hshort, e0, (by show World.ownsRow _ _ _ _ _ _ _; rw [Nat.sub_self]; simpa using hown1), hB⟩
      case round =>
        obtain ⟨m, a, ca, hm1, hm2, rfl, hown1, hB1⟩ := hrel
        have hcx := (hB1.out.cell (p := ⟨b, off + j, none⟩) hbB.out).trans hcx0.out
        by_cases hmi : m ≤ yi
        · have hm3 : (m : Int) ≤ (yi : Int) := by omega
          have hown3 := hown1.out
          have hszw := hB1.out.size
          have hq1 := hidden hm1
          have hq2 := hidden hm2
          have hq3 := hidden hmi
          clear hm1 hm2 hmi hshort
          go_wp2_with (at_builtin; refine wpList_append_own _ rfl _ _ 34 rfl w.heap.size 42 i0 (.int .u64 0) 1 8 Tryd.underlying34 hi hz0 hz1 hz2 rfl (by decide) _ _ _ rfl (hown3.alloc _) ⟨wr.heap.size, 0, none⟩ 1 1 [.int .u64 0] rfl rfl (cell_one_new _ _ _) ?c2 ?c3 ?c4 ?c5 ?_)
          case c2 => intro u hu; simp at hu; subst hu; rfl
          case c3 => unfold maxLen; omega
          case c4 => omega
          case c5 => simp; omega
          intro v' w3 hown' hgrow _
          have hB3 : Hid (Below w.heap.size w w3) := (hB1.out.alloc hszw _).grown hgrow (by simp; omega) (fun k hk => (hown3.lt k hk).1)
          obtain ⟨a', c', e'⟩ := own_slice hown'
          subst e'
          have hnext : Hid (w3.ownsRow w.heap.size 42 1 (.slice a' (m + 1) c') (m + 1) (wl (us ++ List.replicate (m + 1 - us.length) 0))) := by
            show World.ownsRow _ _ _ _ _ _ _
            have := hq1.out
            rw [show m + 1 - us.length = (m - us.length) + 1 by omega, wl_snoc]; exact hown'
          clear hown' hgrow hown1 hown3 hcx hm3 hB1 hszw
          go_wp2
          go_roundw
          case rel => exact ⟨m + 1, a', c', by have := hq1.out; omega, by have := hq3.out; omega, rfl, hnext, hB3⟩
          case measure => simp only [sliceLen]; have := hq3.out; omega
        · obtain rfl : m = yi + 1 := by omega
          have hm3 : ¬ (((yi + 1 : Nat) : Int)) ≤ (yi : Int) := by omega
          have hown2 := hown1.out
          clear hown1 hown hmi hm1 hm2 hB hshort
          obtain ⟨vs, hvs⟩ : ∃ vs, us ++ List.replicate (yi + 1 - us.length) 0 = vs := ⟨_, rfl⟩
          rw [hvs] at hown2
          replace hvs := hidden hvs
          replace hown2 := hidden hown2
          go_wp2_with fail
          go_loop [5, 6] (fun p k => ∃ c : Nat, c ≤ yr ∧ k = .int .i64 (c : Int) ∧ p = .int .u64 ((2 ^ c : Nat) : Int)) (fun _ k => yr - (intOf k).toNat)
          case atStart => exact ⟨0, Nat.zero_le _, rfl, rfl⟩
          case round =>
            obtain ⟨c, hc, rfl, rfl⟩ := hrel
            by_cases hci : c < yr
            · have hc1 : (c : Int) < (yr : Int) := by omega
              have hP : 2 ^ c < 9223372036854775808 := Nat.pow_lt_pow_right (n := 63) (by omega) (by omega)
              have hPP : Hid (2 ^ (c + 1) = 2 * 2 ^ c) := by show _ = _; rw [Nat.pow_succ]; omega
              generalize 2 ^ c = P at *
              have hP1 : (P : Int) < 9223372036854775808 := by omega
              clear hP
              go_wp2
              go_round
              case rel => exact ⟨c + 1, by omega, by go_num, by rw [hPP.out]; go_num⟩
              case measure => simp [intOf]; omega
            · obtain rfl : c = yr := by omega
              have hc1 : ¬ (c : Int) < (c : Int) := by omega
              obtain ⟨g, cc, e, hgb, hgc⟩ := own_some hown2.out (by intro e; cases e)
              cases e
              obtain ⟨w2, hw2⟩ : ∃ w2, w2 = wr.drew := ⟨_, rfl⟩
              have hownd : w2.ownsRow w.heap.size 42 1 (.slice (some ⟨g, 0, none⟩) (yi + 1) ca) (yi + 1) (wl vs) := by rw [hw2]; exact hown2.out
              have hst := hownd.stored yi (.int .u64 ((vs.getD yi 0 + 2 ^ c : Nat) : Int))
              have hlenv : vs.length = yi + 1 := by rw [← hvs.out]; exact hbit.out.len
              have hz0' : vs.getD yi 0 + 2 ^ c < 18446744073709551616 := by rw [← hvs.out]; exact hbit.out.sum
              rw [wl_set] at hst
              have d1 := hownd.cellAt yi (by omega)
              rw [wl_at vs yi (by omega)] at d1
              have d2 := hownd.frozenAt yi
              have hWn := hidden hbit.out.step
              rw [hvs.out] at hWn
              have hln : Hid ((vs.set yi (vs.getD yi 0 + 2 ^ c)).length = yi + 1) := by show _ = _; rw [List.length_set]; exact hlenv
              clear hlenv
              have hsum : Hid (((vs.getD yi 0 : Nat) : Int) + ((2 ^ c : Nat) : Int) = ((vs.getD yi 0 + 2 ^ c : Nat) : Int)) := by show _ = _; omega
              generalize vs.getD yi 0 + 2 ^ c = S at *
              generalize 2 ^ c = P at *
              generalize vs.getD yi 0 = z at *
              have hs1 : (z : Int) + (P : Int) < 18446744073709551616 := by rw [hsum.out]; omega
              have hyi1 : (yi : Int) < ((yi + 1 : Nat) : Int) := by omega
              have hst2 := hidden hst.1
              have hBn : Hid (Below w.heap.size w (w2.setCell ⟨g, yi, none⟩ (.int .u64 (S : Int)))) := (show Below w.heap.size w w2 by rw [hw2]; exact hB1.out.drew).setCell hgb _
              clear hst hz0' hgb hgc hown2 hB1 hvs hbit hownd
              have d0 : w2.cell? ⟨b, off + j, none⟩ = some (.int .i64 (y : Int)) := by rw [hw2]; exact hcx
              replace hw2 := hidden hw2
              have d0 := hidden d0
              have d1 := hidden d1
              have d2 := hidden d2
              clear hc1
              go_wp2_with fail
              replace d0 := d0.out
              replace d1 := d1.out
              replace d2 := d2.out
              have ew : IntKind.i64.wrap (yi : Int) = (yi : Int) := IntWalk.i64_in _ (by omega)
              have eu : IntKind.u64.wrap ((z : Int) + (P : Int)) = (S : Int) := by rw [IntWalk.u64_in _ (by omega)]; exact hsum.out
              refine still_tail2 17 (by kernel_rfl) (by kernel_rfl) w2 hw2.out ?_
              clear hw2
              simp only [List.take_succ_cons, List.take_zero, List.drop_succ_cons, List.drop_zero]
              repeat still_step
              refine wpStill_nil ?_
              clear ew eu d0 d1 d2 q1 q2
              go_wp2
              go_roundw
              case rel => exact ⟨j + 1, _, by omega, by go_num, hWn, (by show World.ownsRow _ _ _ _ _ _ _; rw [hln.out]; exact hst2.out), hBn⟩
              case measure => simp [intOf]; omega
    · have hj1 : ¬ (j : Int) < (xs.length : Int) := by omega
      obtain rfl : j = xs.length := by omega
      have hfin := hidden (holds_of_owns hown.out)
      have hWf := hW.out
      rw [List.take_length] at hWf
      replace hWf := hidden hWf
      clear hown hW
      go_wp2
      go_ret
      exact ⟨_, rfl, us, hWf.out, hfin.out, hB.out⟩
end Go.Proofs.YtieinedancdokaaDoor
/-
  SETS AND RISING LISTS, each call in one form: what it returns holds a rising list, and all that lay there lies there.
-/
namespace Go.Proofs.YtieinedancdokaaDoor
open Go.ChangeShapes Go.WideShapes Go.ChangeAt Go.RowKit

theorem ints_map (xs : List Nat) : ints xs = (xs.map Int.ofNat).map (Value.int .i64) := by simp [ints]
theorem wl_map (xs : List Nat) : wl xs = (xs.map Int.ofNat).map (Value.int .u64) := by simp [wl]
theorem map_nat_eq (xs ys : List Nat) : xs.map Int.ofNat = ys.map Int.ofNat ↔ xs = ys :=
  ⟨fun h => (List.map_inj_right (fun _ _ h => Int.ofNat.inj h)).1 h, fun h => by rw [h]⟩
theorem L_same (p q : Nat → Bool) : L p = L q ↔ ∀ k, k < 65536 → p k = q k := by
  constructor
  · intro h k hk
    rw [← contains_L p k hk, ← contains_L q k hk, h]
  · intro h
    exact List.filter_congr fun k hk => h k (List.mem_range.1 hk)
/-- Whether they are the same is a given answer. -/
theorem rsameL_c (va vb : Value) (p q : Nat → Bool) (sm : Bool) (hsm : sm = true ↔ ∀ k, k < 65536 → p k = q k) (w : World) (ha : Holds w va (ints (L p))) (hb : Holds w vb (ints (L q))) :
    Calls Tryd.prog 7 #[va, vb] w fun e w' => e = .returned (.bool sm) ∧ Below w.heap.size w w' := by
  have l1 := L_len p
  have l2 := L_len q
  rw [ints_map] at ha hb
  have := same_c va vb _ _ w ha hb (by simp; omega) (by simp; omega)
  have e : decide ((L p).map Int.ofNat = (L q).map Int.ofNat) = sm := by
    rw [Bool.eq_iff_iff, decide_eq_true_eq, map_nat_eq, L_same, hsm]
  rwa [e] at this
theorem rsameT_c (va vb : Value) (p q : Nat → Bool) (h : ∀ k, k < 65536 → p k = q k) (w : World) (ha : Holds w va (ints (L p))) (hb : Holds w vb (ints (L q))) :
    Calls Tryd.prog 7 #[va, vb] w fun e w' => e = .returned (.bool true) ∧ Below w.heap.size w w' :=
  rsameL_c va vb p q true ⟨fun _ => h, fun _ => rfl⟩ w ha hb
theorem wsame_c (va vb : Value) (xs ys : List Nat) (sm : Bool) (hsm : sm = true ↔ xs = ys) (w : World) (ha : Holds w va (wl xs)) (hb : Holds w vb (wl ys)) (hx : xs.length ≤ 1024) (hy : ys.length ≤ 1024) :
    Calls Tryd.prog 15 #[va, vb] w fun e w' => e = .returned (.bool sm) ∧ Below w.heap.size w w' := by
  rw [wl_map] at ha hb
  have := sameu_c va vb _ _ w ha hb (by simp; omega) (by simp; omega)
  have e : decide (xs.map Int.ofNat = ys.map Int.ofNat) = sm := by
    rw [Bool.eq_iff_iff, decide_eq_true_eq, map_nat_eq, hsm]
  rwa [e] at this
theorem fewH_c (v : Value) (zs : List Int) (m : Nat) (w : World) (hv : Holds w v (zs.map (Value.int .i64))) (hz : zs.length ≤ 9223372036854775807) (hm : m ≤ 1000) :
    Calls Tryd.prog 5 #[v, .int .i64 m] w fun e w' => ∃ v', e = .returned v' ∧ Holds w' v' ((zs.take m).map (Value.int .i64)) ∧ Below w.heap.size w w' :=
  (few_c v zs m w hv hz hm).mono fun _ _ ⟨v', he, ho, hB⟩ => ⟨v', he, holds_of_owns ho, hB⟩
theorem listL_c (b : Nat) (g : Option Nat) (ws : List Nat) (p : Nat → Bool) (w : World) (hf : Fit ws) (hp : ∀ k, has ws k = p k) (h : SetAt w b g ws) (hT : TabAt 0 Lib.deBruijn64tab w) :
    Calls Tryd.prog 9 #[.pointer (some ⟨b, 0, none⟩)] w fun e w' => ∃ v, e = .returned v ∧ Holds w' v (ints (L p)) ∧ Below w.heap.size w w' := by
  have := list_c b g ws w hf h hT
  rwa [told_L ws hf, L_congr hp] at this
/-- Words as they are told: of a set's words those that are left. -/
theorem wordsH_c (b : Nat) (g : Option Nat) (ws : List Nat) (w : World) (hf : Fit ws) (h : SetAt w b g ws) : Calls Tryd.prog 16 #[.pointer (some ⟨b, 0, none⟩)] w fun e w' =>
    ∃ v m, e = .returned v ∧ Trim ws m ∧ Holds w' v (wl (ws.take m)) ∧ Below w.heap.size w w' := by
  refine (words_c b g ws w hf h).mono ?_
  rintro e w' ⟨m, x, rfl, hT, hx, hc, hB⟩
  have hl : (wl (ws.take m)).length = m := by rw [wl_len, List.length_take]; have := hT.le; omega
  refine ⟨_, m, rfl, hT, ⟨_, m, by rw [hl], .inr ⟨x, 0, rfl, (Array.getElem?_eq_some_iff.1 hc).1, fun j u hj => ?_⟩⟩, hB⟩
  have : w'.cell? ⟨x, j, none⟩ = (wv (ws.take m))[j]? := by simp [World.cell?, hc]
  rw [Nat.zero_add, this]
  rw [← hj]
  simp [wv, wl]
theorem trim_wd {ws us t : List Nat} {m : Nat} {p : Nat → Bool} (hf : Fit ws) (h1 : Trim ws m) (hp : ∀ k, has ws k = p k) (hW : Wd us (L p)) (ht : t = ws.take m) : t = us := by
  have h2 : Trim us us.length := ⟨Nat.le_refl _, fun i hi => by rw [List.getD_eq_getElem?_getD, List.getElem?_eq_none hi]; rfl, hW.last⟩
  have := (trim_same hf hW.fit h1 h2).2 fun k => by
    rcases Nat.lt_or_ge k 65536 with hk | hk
    · rw [hW.is, contains_L p k hk, hp]
    · rw [has_high hf hk, has_high hW.fit hk]
  rw [List.take_length] at this
  rw [ht, this]
theorem pickN_c (v1 v2 : Value) (p q : Nat → Bool) (t : Bool) (w : World) (h1 : Holds w v1 (ints (L p))) (h2 : Holds w v2 (ints (L q))) : Calls Tryd.prog 12 #[v1, v2, .bool t] w fun e w' =>
    ∃ a n c, e = .returned (.slice a n c) ∧ n = (L fun k => p k && (q k == t)).length ∧ Holds w' (.slice a n c) (ints (L fun k => p k && (q k == t))) ∧ Below w.heap.size w w' := by
  refine (pick_c v1 v2 p q t w h1 h2).mono ?_
  rintro e w' ⟨v', rfl, hv, hB⟩
  have hv2 := hv
  obtain ⟨a, c, rfl, _⟩ := hv2
  rw [ints_len] at hv ⊢
  exact ⟨a, _, c, rfl, rfl, hv, hB⟩
end Go.Proofs.YtieinedancdokaaDoor
