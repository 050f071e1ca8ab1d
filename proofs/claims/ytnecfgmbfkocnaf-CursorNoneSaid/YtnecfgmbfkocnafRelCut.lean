/-
  THE SAME, UP TO A CUT: the first k operations in whatever order, each by what it hands on; none of the others comes up before all of these have run. No function is named here.
-/
import Derived.Test.YtnecfgmbfkocnafRel
namespace Go.Proofs.Ytnecfgmbfkocnaf
open Go.ChangeShapes Go.WideShapes Go.ChangeAt Go.RowKit

namespace Rel
def depsAt (l : List Oper) (i : Nat) : List Nat := ((l[i]?).map deps).getD []
def anc (l : List Oper) : Nat → Nat → List Nat
  | 0, _ => []
  | f + 1, i => (depsAt l i).flatMap fun j => j :: anc l f j
/-- No operation from k on comes up before all ahead of k have run. -/
def cutB (l : List Oper) (k : Nat) : Bool :=
  (List.range l.length).all fun i => decide (i < k) || (depsAt l i).any (fun j => decide (k ≤ j)) || (let a := anc l l.length i; (List.range k).all fun j => a.contains j)
theorem anc_listed {l : List Oper} {listed : Array Bool} (hc : ∀ i, listed.getD i false = true → ∀ j ∈ depsAt l i, listed.getD j false = true) : ∀ (f i : Nat), (∀ j ∈ depsAt l i, listed.getD j false = true) → ∀ j ∈ anc l f i, listed.getD j false = true
  | 0, _, _, _, h => by cases h
  | f + 1, i, hi, j, h => by
    unfold anc at h
    rw [List.mem_flatMap] at h
    obtain ⟨d, hd, h⟩ := h
    rcases List.mem_cons.1 h with rfl | h
    · exact hi _ hd
    · exact anc_listed hc f d (hc d (hi d hd)) j h

variable {P : Program} {l : List Oper} {Q : Exit → Act → World → Prop} {a0 : Act} {Cl : World → Prop} {R : Nat → Value → World → Prop} {St : World → World → Prop} {k : Nat}
/-- Where the cut stands: the first k have run. -/
def atCut (l : List Oper) (k : Nat) : Array Bool := (List.replicate k true ++ List.replicate (l.length - k) false).toArray
theorem any_cut (hf : fitB l a0.tmps.size = true) (hk : k ≤ l.length) (hcut : cutB l k = true) (hst : ∀ i v w w', R i v w → St w w' → R i v w')
    (hob : ∀ i o, i < k → l[i]? = some o → ∀ a w, Cl w → (∀ t, freeB (l.take k) t = true → a.tmps[t]? = a0.tmps[t]?) → (∀ j ∈ deps o, ∀ o', l[j]? = some o' → ∃ v, (∀ t, o'.dst = some t → a.tmps[t]? = some v) ∧ R j v w) →
      ∀ K : Act → World → Prop, (∀ v w', Cl w' → St w w' → R i v w' → K (a.put o.dst v) w') → wpOp P l.toArray Q i K a w)
    (hend : ∀ f a w, Cl w → a.defers = a0.defers → a.tmps.size = a0.tmps.size → (∀ t, freeB (l.take k) t = true → a.tmps[t]? = a0.tmps[t]?) → (∀ j o, j < k → l[j]? = some o → ∃ v, (∀ t, o.dst = some t → a.tmps[t]? = some v) ∧ R j v w) → wpAny P .any l.toArray Q (f + (l.length - k)) (atCut l k) a w) :
    ∀ (fuel : Nat) (listed : Array Bool) (a : Act) (w : World), listed.size = l.length → left l.length listed ≤ fuel → l.length - k ≤ fuel → (∀ i, k ≤ i → i < l.length → listed.getD i true = false) → (∀ i, listed.getD i false = true → ∀ j ∈ depsAt l i, listed.getD j false = true) →
      Cl w → a.defers = a0.defers → a.tmps.size = a0.tmps.size → (∀ t, freeB (l.take k) t = true → a.tmps[t]? = a0.tmps[t]?) → (∀ j o, l[j]? = some o → listed.getD j false = true → ∃ v, (∀ t, o.dst = some t → a.tmps[t]? = some v) ∧ R j v w) →
      (left l.length listed = (l.length - k) + (List.range k).countP fun i => !listed.getD i true) → wpAny P .any l.toArray Q fuel listed a w := by
  have same : ∀ (listed : Array Bool) (j : Nat), j < listed.size → listed.getD j true = listed.getD j false := fun listed j hj => by
    rw [Array.getD_eq_getD_getElem?, Array.getD_eq_getD_getElem?, Array.getElem?_eq_getElem hj]; rfl
  intro fuel
  induction fuel with
  | zero =>
    intro listed a w hs hn hfu hun hcl hC hd hz hr hI hcnt
    -- nothing is left: the cut stands at the end
    have hall : ∀ j, j < k → listed.getD j false = true := fun j hj => by
      cases h : listed.getD j false with
      | true => rfl
      | false =>
        have h1 : listed.getD j true = false := (same listed j (by omega)).trans h
        have := left_set (listed := listed) (show j < l.length by omega) h1
        omega
    have e : listed = atCut l k := by
      apply Array.ext'
      apply List.ext_getElem?
      intro j
      unfold atCut
      by_cases hj : j < k
      · have h := hall j hj
        rw [Array.getD_eq_getD_getElem?] at h
        rw [Array.getElem?_toList, List.getElem?_append_left (by simpa using hj), List.getElem?_replicate, if_pos hj]
        cases hx : listed[j]? with
        | none => rw [hx] at h; cases h
        | some b => rw [hx] at h; simp at h; rw [h]
      · rw [Array.getElem?_toList, Array.getElem?_eq_none (by omega)]
        exact (List.getElem?_eq_none (by simp; omega)).symm
    have h := hend 0 a w hC hd hz hr (fun j o hj ho => hI j o ho (hall j hj))
    rw [← e, show (0 : Nat) + (l.length - k) = 0 by omega] at h
    exact h
  | succ fuel ih =>
    intro listed a w hs hn hfu hun hcl hC hd hz hr hI hcnt
    by_cases hall : ∀ j, j < k → listed.getD j false = true
    · have e : listed = atCut l k := by
        apply Array.ext'
        apply List.ext_getElem?
        intro j
        unfold atCut
        by_cases hj : j < k
        · have h := hall j hj
          rw [Array.getD_eq_getD_getElem?] at h
          rw [Array.getElem?_toList, List.getElem?_append_left (by simpa using hj), List.getElem?_replicate, if_pos hj]
          cases hx : listed[j]? with
          | none => rw [hx] at h; cases h
          | some b => rw [hx] at h; simp at h; rw [h]
        · rw [Array.getElem?_toList, List.getElem?_append_right (by simpa using hj), List.getElem?_replicate]
          simp only [List.length_replicate]
          by_cases hj2 : j < l.length
          · have h := hun j (by omega) hj2
            rw [Array.getD_eq_getD_getElem?] at h
            rw [if_pos (by omega)]
            cases hx : listed[j]? with
            | none => rw [hx] at h; cases h
            | some b => rw [hx] at h; simp at h; rw [h]
          · rw [if_neg (by omega), Array.getElem?_eq_none (by omega)]
      rw [e]
      obtain ⟨f, hf'⟩ : ∃ f, fuel + 1 = f + (l.length - k) := ⟨fuel + 1 - (l.length - k), by omega⟩
      rw [hf']
      exact hend f a w hC hd hz hr (fun j o hj ho => hI j o ho (hall j hj))
    · -- not all have run: whatever comes up stands ahead of the cut
      have hlt : ∀ i ∈ Region.ready .any l.toArray listed, i < k := fun i hi => by
        obtain ⟨o, ho, h1, h2⟩ := ready_mem hi
        rcases Nat.lt_or_ge i k with h | h
        · exact h
        · exfalso
          have hil := (List.getElem?_eq_some_iff.1 ho).1
          have hda : depsAt l i = deps o := by simp [depsAt, ho]
          have hc := List.all_eq_true.1 hcut i (List.mem_range.2 hil)
          simp only [Bool.or_eq_true, decide_eq_true_eq, List.any_eq_true] at hc
          rcases hc with (hc | ⟨j, hj, hjk⟩) | hc
          · omega
          · rw [hda] at hj
            have hl := h2 j hj
            by_cases hjl : j < l.length
            · have := hun j hjk hjl
              rw [same listed j (by omega)] at this
              rw [hl] at this; cases this
            · rw [Array.getD_eq_getD_getElem?, Array.getElem?_eq_none (by omega)] at hl; cases hl
          · refine hall fun j hj => ?_
            have hm := List.all_eq_true.1 hc j (List.mem_range.2 hj)
            exact anc_listed hcl l.length i (by rw [hda]; exact h2) j (by simpa using hm)
      have hne : Region.ready .any l.toArray listed ≠ [] := fun hr0 => by
        refine hall fun j => ?_
        induction j using Nat.strongRecOn with
        | ind j ihj =>
          intro hj
          cases hdj : listed.getD j false with
          | true => rfl
          | false =>
            have ho : l[j]? = some l[j] := List.getElem?_eq_getElem (by omega)
            have := ready_of ho ((same listed j (by omega)).trans hdj) fun q hq => ihj q (fitB_deps hf ho q hq) (by have := fitB_deps hf ho q hq; omega)
            rw [hr0] at this; cases this
      refine ⟨fun h => absurd h hne, fun i hi => ?_⟩
      have hik := hlt i hi
      obtain ⟨o, ho, h1, h2⟩ := ready_mem hi
      have hil := (List.getElem?_eq_some_iff.1 ho).1
      have hls := left_set hil h1
      have hcs : (List.range k).countP (fun j => !(listed.setIfInBounds i true).getD j true) < (List.range k).countP fun j => !listed.getD j true := left_set (n := k) hik h1
      have hget : ∀ j, (listed.setIfInBounds i true).getD j false = true → j ≠ i → listed.getD j false = true := fun j hj hne => by
        rw [Array.getD_eq_getD_getElem?, Array.getElem?_setIfInBounds] at hj
        rw [Array.getD_eq_getD_getElem?]
        simpa [show ¬ i = j from fun h => hne h.symm] using hj
      have hgetT : ∀ j, j ≠ i → (listed.setIfInBounds i true).getD j true = listed.getD j true := fun j hne => by
        rw [Array.getD_eq_getD_getElem?, Array.getElem?_setIfInBounds, Array.getD_eq_getD_getElem?]
        simp [show ¬ i = j from fun h => hne h.symm]
      have hmono : ∀ j, listed.getD j false = true → (listed.setIfInBounds i true).getD j false = true := fun j hj => by
        rw [Array.getD_eq_getD_getElem?, Array.getElem?_setIfInBounds]
        rw [Array.getD_eq_getD_getElem?] at hj
        by_cases e : i = j
        · subst e; simp [show i < listed.size by omega]
        · simpa [e] using hj
      have hsplit : ∀ L : Array Bool, (∀ j, k ≤ j → j < l.length → L.getD j true = false) → left l.length L = (l.length - k) + (List.range k).countP fun j => !L.getD j true := fun L hL => by
        unfold left
        have e : List.range l.length = List.range k ++ (List.range (l.length - k)).map (k + ·) := by
          rw [← List.range_add]; congr 1; omega
        rw [e, List.countP_append]
        have : ((List.range (l.length - k)).map (k + ·)).countP (fun j => !L.getD j true) = l.length - k := by
          have e2 := List.countP_eq_length (p := fun j => !L.getD j true) (l := (List.range (l.length - k)).map (k + ·))
          rw [e2.2 ?_]
          · simp
          · intro x hx
            simp only [List.mem_map, List.mem_range] at hx
            obtain ⟨y, hy, rfl⟩ := hx
            simp [hL (k + y) (by omega) (by omega)]
        omega
      have hun' : ∀ j, k ≤ j → j < l.length → (listed.setIfInBounds i true).getD j true = false := fun j h3 h4 => by rw [hgetT j (by omega)]; exact hun j h3 h4
      refine hob i o hik ho a w hC hr (fun j hj o' ho' => hI j o' ho' (h2 j hj)) _ fun v w' hc hB hv => ?_
      obtain ⟨p1, p2, p3, p4⟩ := put_tmps a o.dst v
      refine ih _ _ _ (by simpa using hs) (by omega) ?_ hun' (fun j hj d hd' => ?_) hc (p1.trans hd) (p2.trans hz) (fun t ht => ?_) (fun j o' hj hl => ?_) (hsplit _ hun')
      · have := hsplit _ hun'; omega
      · by_cases e : j = i
        · subst e
          have hda : depsAt l j = deps o := by simp [depsAt, ho]
          rw [hda] at hd'
          exact hmono d (h2 d hd')
        · exact hmono d (hcl j (hget j hj e) d hd')
      · have hm : o ∈ l.take k := List.mem_of_getElem? (by rw [List.getElem?_take_of_lt hik]; exact ho)
        exact (p3 t (freeB_spec ht hm)).trans (hr t ht)
      · by_cases e : j = i
        · subst e
          rw [ho] at hj
          cases hj
          exact ⟨v, fun t ht => p4 t ht (by have := (fitB_dst hf ho ht).1; rw [hz]; exact this), hv⟩
        · obtain ⟨u, hu, hr'⟩ := hI j o' hj (hget j hl e)
          refine ⟨u, fun t ht => (p3 t fun hd => ?_).trans (hu t ht), hst j u w w' hr' hB⟩
          exact (fitB_dst hf ho hd).2 j o' hj e ht
theorem wp_region_cut {id : Nat} {w : World} (k : Nat) (Cl : World → Prop) (St : World → World → Prop) (R : Nat → Value → World → Prop) (hm : P.follows .mixedOrders = true) (hf : fitB l a0.tmps.size = true) (hk : k ≤ l.length) (hcut : cutB l k = true) (hst : ∀ i v w w', R i v w → St w w' → R i v w') (hC : Cl w.drew)
    (hob : ∀ i o, i < k → l[i]? = some o → ∀ a w, Cl w → (∀ t, freeB (l.take k) t = true → a.tmps[t]? = a0.tmps[t]?) → (∀ j ∈ deps o, ∀ o', l[j]? = some o' → ∃ v, (∀ t, o'.dst = some t → a.tmps[t]? = some v) ∧ R j v w) →
      ∀ K : Act → World → Prop, (∀ v w', Cl w' → St w w' → R i v w' → K (a.put o.dst v) w') → wpOp P l.toArray Q i K a w)
    (hend : ∀ f a w, Cl w → a.defers = a0.defers → a.tmps.size = a0.tmps.size → (∀ t, freeB (l.take k) t = true → a.tmps[t]? = a0.tmps[t]?) → (∀ j o, j < k → l[j]? = some o → ∃ v, (∀ t, o.dst = some t → a.tmps[t]? = some v) ∧ R j v w) → wpAny P .any l.toArray Q (f + (l.length - k)) (atCut l k) a w) :
    (Code.region id l.toArray true).wp P Q a0 w := by
  refine wp_region_any hm ?_
  have h0 : ∀ i, (Array.replicate l.length false).getD i false = false := fun i => by
    rw [Array.getD_eq_getD_getElem?, Array.getElem?_replicate]; split <;> rfl
  have h1 : ∀ i, i < l.length → (Array.replicate l.length false).getD i true = false := fun i hi => by
    rw [Array.getD_eq_getD_getElem?, Array.getElem?_replicate, if_pos hi]; rfl
  have hl : left l.length (Array.replicate l.length false) = l.length := by
    unfold left
    rw [List.countP_eq_length.2 fun i hi => by rw [h1 i (List.mem_range.1 hi)]; rfl]
    simp
  have hk2 : (List.range k).countP (fun i => !(Array.replicate l.length false).getD i true) = k := by
    rw [List.countP_eq_length.2 fun i hi => by rw [h1 i (by have := List.mem_range.1 hi; omega)]; rfl]
    simp
  have h := any_cut hf hk hcut hst hob hend l.length (Array.replicate l.length false) a0 w.drew (by simp) (by omega) (by omega) (fun i _ h => h1 i h) (fun i h => by rw [h0] at h; cases h) hC rfl rfl (fun _ _ => rfl) (fun j o _ h => by rw [h0] at h; cases h) (by omega)
  simpa using h
end Rel
end Go.Proofs.Ytnecfgmbfkocnaf
