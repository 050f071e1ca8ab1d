/-
  THE WORDS OF A SET, WITHOUT THOSE THAT ARE 0 AT THE END: by contract.
-/
import Derived.Test.YtieinedancdokacDoorPB
import Derived.Test.YtieinedancdokacDoorPD
import Derived.Test.YtieinedancdokacDoorPE
namespace Go.Proofs.YtieinedancdokacDoor
open Go.ChangeShapes Go.WideShapes Go.ChangeAt Go.RowKit

/-- Any words, laid where a set's words are. -/
theorem copied_wv (ws : List Nat) : (splice (wv (List.replicate ws.length 0)).toList 0 (wv ws).toList).toArray = wv ws := by
  rw [splice_wv]; simp
/-- How many words are left. -/
structure Trim (ws : List Nat) (m : Nat) : Prop where
  le : m ≤ ws.length
  zero : ∀ i, m ≤ i → ws.getD i 0 = 0
  last : 0 < m → ws.getD (m - 1) 0 ≠ 0
theorem wv_get (ws : List Nat) (j : Nat) (hj : j < ws.length) : (wv ws)[j]? = some (.int .u64 ((ws.getD j 0 : Nat) : Int)) := by simp [wv, hj, List.getD]
theorem wv_one (ws : List Nat) : ∀ v ∈ (wv ws).toList, v.oneCell' = true := fun v hv => by
  simp only [wv, List.mem_map] at hv
  obtain ⟨x, _, rfl⟩ := hv
  rfl
set_option maxHeartbeats 1600000 in
theorem words_c (b : Nat) (g : Option Nat) (ws : List Nat) (w : World) (hf : Fit ws) (h : SetAt w b g ws) : Calls Tryd.prog 17 #[.pointer (some ⟨b, 0, none⟩)] w fun e w' =>
    ∃ m x, e = .returned (.slice (some ⟨x, 0, none⟩) m m) ∧ Trim ws m ∧ w.heap.size ≤ x ∧ w'.heap[x]? = some (.cells (wv (ws.take m)) 44) ∧ Below w.heap.size w w' := by
  have hw := wide_c b g ws w h
  have hlen := hf.short
  have c0 := h.cell0
  have h := hidden h
  go_enter Tryd.func17, Tryd.ntmps17
  go_wp2_with fail
  refine hw.mono ?_
  rintro e w' ⟨rfl, rfl⟩
  clear hw
  go_wp2_with fail
  go_loop [3] (fun u => ∃ j : Nat, j ≤ ws.length ∧ u = .int .i64 (j : Int) ∧ Hid (∀ i, j ≤ i → ws.getD i 0 = 0)) (fun u => (intOf u).toNat)
  case atStart => exact ⟨ws.length, Nat.le_refl _, rfl, (fun i hi => by rw [List.getD_eq_getElem?_getD, List.getElem?_eq_none hi]; rfl : ∀ i, ws.length ≤ i → ws.getD i 0 = 0)⟩
  case round =>
    obtain ⟨j, hj, rfl, hz⟩ := hrel
    by_cases h0 : j = 0
    · subst h0
      have hmk : ∀ w, (Instr.makeSlice 37 (.int .i64 0) (.int .i64 0)).run Tryd.prog w = .ok (.slice (some ⟨w.heap.size, 0, none⟩) 0 0) (w.alloc (.cells (wv (List.replicate 0 0)) 44)) := fun w => makeW 0 w (by omega)
      have hT : Hid (Trim ws 0) := ⟨Nat.zero_le _, hz.out, fun h => absurd h (by omega)⟩
      have hB1 : Hid (Below w'.heap.size w' (w'.alloc (.cells (wv (List.replicate 0 0)) 44))) := (Below.refl _ _).alloc (Nat.le_refl _) _
      have k0 : Hid ((w'.alloc (.cells (wv (List.replicate 0 0)) 44)).heap[w'.heap.size]? = some (.cells (wv (ws.take 0)) 44)) := by
        show _ = _
        rw [List.take_zero]; exact heap_alloc_new _ _
      clear hz
      go_wp2
      go_ret
      exact ⟨0, _, rfl, hT.out, Nat.le_refl _, k0.out, hB1.out⟩
    · have hj1 : (0 : Int) < (j : Int) := by omega
      cases g with
      | none => have hn := h.out.empty rfl; subst hn; simp at hj; omega
      | some g =>
        simp only [rowV] at c0
        have c1 := h.out.cell (j - 1) (by omega)
        have hnx : ws.getD (j - 1) 0 = 0 → Hid (∀ i, j - 1 ≤ i → ws.getD i 0 = 0) := fun hx i hi => by
          rcases Nat.lt_or_ge i j with h1 | h1
          · obtain rfl : i = j - 1 := by omega
            exact hx
          · exact hz.out i h1
        have e1 : (j : Int) - 1 = ((j - 1 : Nat) : Int) := by omega
        have e2 : wrap64 ((j - 1 : Nat) : Int) = ((j - 1 : Nat) : Int) := IntWalk.wrap64_in _ (by omega)
        have hj2 : ((j - 1 : Nat) : Int) < (ws.length : Int) := by omega
        by_cases hx : ws.getD (j - 1) 0 = 0
        · have hnx := hnx hx
          rw [hx] at c1
          clear hx hz
          generalize hq : j - 1 = q at *
          go_wp2
          go_round
          case rel => exact ⟨q, by omega, rfl, hnx⟩
          case measure => simp [intOf]; omega
        · have hT : Hid (Trim ws j) := ⟨hj, hz.out, fun _ => hx⟩
          have hxb : (((ws.getD (j - 1) 0 : Nat) : Int) == 0) = false := beq_eq_false_iff_ne.2 (fun e => hx (by omega))
          generalize ws.getD (j - 1) 0 = x at *
          clear hz hx hnx
          generalize hq : j - 1 = q at *
          have hmk := fun w => makeW j w (by omega)
          have hblt := h.out.lt
          have c0a : ∀ O, (w'.alloc O).cell? ⟨b, 0, none⟩ = some (.slice (some ⟨g, 0, none⟩) ws.length ws.length) := fun O => (((Below.refl w'.heap.size w').alloc (Nat.le_refl _) O).cell (p := ⟨b, 0, none⟩) hblt).trans c0
          have hrow := h.out.row g rfl
          have hglt := h.out.glt
          have hcells : ∀ O, ∀ i v, (wv (ws.take j)).toList[i]? = some v → (w'.alloc O).cell? ((⟨g, 0, none⟩ : Addr).add i) = some v := fun O i v hv => by
            rw [add_plain, Nat.zero_add]
            simp only [World.cell?, (heap_alloc_old w' O hglt).trans hrow]
            have hi : i < j := by
              have := (List.getElem?_eq_some_iff.1 hv).1
              simp [wv] at this; omega
            rw [show (wv ws)[i]? = (wv (ws.take j))[i]? by simp [wv, hi]]
            simpa using hv
          have hcl : (wv (ws.take j)).toList.length = j := by simp [wv]; omega
          have hzl : (wv (List.replicate j 0)).size = j := by simp [wv]
          have hone := wv_one (ws.take j)
          have hB1 : Below w'.heap.size w' (w'.alloc (.cells (wv (List.replicate j 0)) 44)) := (Below.refl _ _).alloc (Nat.le_refl _) _
          have k0 : (w'.alloc (.cells (wv (List.replicate j 0)) 44)).heap[w'.heap.size]? = some (.cells (wv (List.replicate j 0)) 44) := heap_alloc_new _ _
          have hzl2 : (wv (List.replicate j 0)).toList.length = j := by simp [wv]
          have hmin : (wv (ws.take j)).toList.length = Nat.min j j := by rw [hcl]; exact (Nat.min_self _).symm
          have hpos : 0 < (wv (ws.take j)).toList.length → some (⟨w'.heap.size, 0, none⟩ : Addr) = some ⟨w'.heap.size, 0, none⟩ ∧ ∃ ad, some (⟨g, 0, none⟩ : Addr) = some ad ∧ ∀ i v, (wv (ws.take j)).toList[i]? = some v → (w'.alloc (.cells (wv (List.replicate j 0)) 44)).cell? (ad.add i) = some v := fun _ => ⟨rfl, _, rfl, hcells _⟩
          have hfit : 0 + (wv (ws.take j)).toList.length ≤ (wv (List.replicate j 0)).toList.length := by rw [hcl, hzl2]; omega
          have hinfo : (Tryd.prog.info? 44).map (·.size) = some 1 := by kernel_rfl
          have hB1' := hidden hB1
          replace hpos := hidden hpos
          replace hfit := hidden hfit
          replace hmin := hidden hmin
          replace k0 : Hid ((w'.alloc (.cells (wv (List.replicate j 0)) 44)).heap[w'.heap.size]? = some (.cells (wv (List.replicate j 0)).toList.toArray 44 (0, 0))) := heap_alloc_new _ _
          replace hone := hidden hone
          replace hinfo := hidden hinfo
          replace hcl := hidden hcl
          clear hcells hzl hzl2
          have hjn : (j : Int) ≤ (ws.length : Int) := by omega
          have hglt := hidden hglt
          have hblt := hidden hblt
          clear hB1 h hf hrow
          go_wp2_with (with_reducible refine wpList_copy_splice rfl (.tmp 26) (.tmp 32) 37 37 rfl 44 Tryd.underlying37 hinfo.out (some ⟨w'.heap.size, 0, none⟩) (some ⟨g, 0, none⟩) j j j ws.length rfl rfl w'.heap.size 0 (wv (List.replicate j 0)).toList 44 k0.out (wv (ws.take j)).toList hmin.out hpos.out hfit.out hone.out w'.heap.size (w'.alloc (.cells (wv (List.replicate j 0)) 44)) (Below.refl _ _) (Nat.le_refl _) ?_; intro w4 hg4 hB4)
          have hst : Hid (w4.heap[w'.heap.size]? = some (.cells (wv (ws.take j)) 44)) := by
            have h4 := hg4.out
            have := copied_wv (ws.take j)
            rw [List.length_take, Nat.min_eq_left hj] at this
            rw [this] at h4
            exact h4
          have hbl := hidden (hB1'.out.trans hB4)
          clear hmk c0a k0 c0 c1 hB4 hg4
          go_wp2
          go_ret
          exact ⟨j, _, rfl, hT.out, Nat.le_refl _, hst.out, hbl.out⟩
end Go.Proofs.YtieinedancdokacDoor
/-
  WORDS WITHOUT ZEROS AT THEIR END: which are the same. Mathematics alone.
-/
namespace Go.Proofs.YtieinedancdokacDoor
open Go.ChangeShapes Go.WideShapes Go.ChangeAt Go.RowKit

theorem words_eq {xs ys : List Nat} (hx : Fit xs) (hy : Fit ys) (h : ∀ k, has xs k = has ys k) (i : Nat) : xs.getD i 0 = ys.getD i 0 :=
  eq_bits (hx.at i) (hy.at i) fun j hj => by
    have := h (64 * i + j)
    unfold has at this
    rwa [show (64 * i + j) / 64 = i by omega, show (64 * i + j) % 64 = j by omega] at this
theorem trim_same {xs ys : List Nat} {m n : Nat} (hx : Fit xs) (hy : Fit ys) (h1 : Trim xs m) (h2 : Trim ys n) : xs.take m = ys.take n ↔ ∀ k, has xs k = has ys k := by
  have getT : ∀ (zs : List Nat) (l i : Nat), i < l → (zs.take l).getD i 0 = zs.getD i 0 := fun zs l i hi => by
    rw [List.getD_eq_getElem?_getD, List.getD_eq_getElem?_getD, List.getElem?_take, if_pos hi]
  constructor
  · intro h k
    have hl : m = n := by
      have := congrArg List.length h
      rw [List.length_take, List.length_take, Nat.min_eq_left h1.le, Nat.min_eq_left h2.le] at this
      exact this
    subst hl
    unfold has
    congr 1
    by_cases hk : k / 64 < m
    · rw [← getT xs m _ hk, ← getT ys m _ hk, h]
    · rw [h1.zero _ (by omega), h2.zero _ (by omega)]
  · intro h
    have hw := words_eq hx hy h
    have hmn : m = n := by
      rcases Nat.lt_trichotomy m n with hlt | he | hlt
      · have := h2.last (by omega)
        rw [← hw, h1.zero (n - 1) (by omega)] at this
        exact absurd rfl this
      · exact he
      · have := h1.last (by omega)
        rw [hw, h2.zero (m - 1) (by omega)] at this
        exact absurd rfl this
    subst hmn
    have e1 := h1.le
    have e2 := h2.le
    apply List.ext_getElem
    · rw [List.length_take, List.length_take]; omega
    · intro i h3 h4
      have hi : i < m := by rw [List.length_take] at h3; omega
      have := hw i
      rw [← getT xs m i hi, ← getT ys m i hi, List.getD_eq_getElem?_getD, List.getD_eq_getElem?_getD, List.getElem?_eq_getElem h3, List.getElem?_eq_getElem h4] at this
      exact this
/-- A rising list is empty just if nothing holds of any number. -/
theorem L_empty (p : Nat → Bool) : (L p).length = 0 ↔ ∀ k, k < 65536 → p k = false := by
  rw [List.length_eq_zero_iff]
  constructor
  · intro h k hk
    cases hp : p k with
    | false => rfl
    | true =>
      have := mem_L.2 ⟨hk, hp⟩
      rw [h] at this
      cases this
  · intro h
    exact List.filter_eq_nil_iff.2 fun k hk => by rw [h k (List.mem_range.1 hk)]; simp
theorem has_high {ws : List Nat} (hf : Fit ws) {k : Nat} (hk : 65536 ≤ k) : has ws k = false := has_end (by have := hf.short; omega)
end Go.Proofs.YtieinedancdokacDoor
