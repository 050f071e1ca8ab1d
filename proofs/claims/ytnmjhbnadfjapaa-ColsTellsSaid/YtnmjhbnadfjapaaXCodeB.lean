/-
  ROWS OF OPERATIONS WHOSE ORDER IS DRAWN: from first to last. No program is named here.
-/
import Derived.Test.YtnmjhbnadfjapaaXCodeA
namespace GoX
open Go

noncomputable def unDone (listed : Array Bool) : Nat → Nat
  | 0 => 0
  | i + 1 => unDone listed i + (if listed.getD i false then 0 else 1)
theorem unDone_zero {listed : Array Bool} : ∀ {m : Nat}, unDone listed m = 0 → ∀ i, i < m → isL listed i
  | m + 1, h, i, hi => by
    unfold unDone at h
    by_cases him : i = m
    · subst him
      unfold isL
      cases hl : listed.getD i false with
      | true => rfl
      | false => rw [hl] at h; simp at h
    · exact unDone_zero (m := m) (by omega) i (by omega)
theorem unDone_set {listed : Array Bool} {i : Nat} (hi : i < listed.size) (hu : ¬ isL listed i) : ∀ m, unDone (listed.setIfInBounds i true) m + (if i < m then 1 else 0) = unDone listed m
  | 0 => by simp [unDone]
  | m + 1 => by
    have ih := unDone_set hi hu m
    have hL := isL_set (j := m) hi
    unfold isL at hL hu
    unfold unDone
    by_cases hm : i = m
    · subst hm
      have h1 : (listed.setIfInBounds i true).getD i false = true := hL.2 (.inl rfl)
      have h2 : listed.getD i false = false := by simpa using hu
      rw [h1, h2]
      simp at ih ⊢
      exact ih
    · have h1 : (listed.setIfInBounds i true).getD m false = listed.getD m false := by
        cases hc : listed.getD m false with
        | true => exact hL.2 (.inr hc)
        | false =>
          cases hd : (listed.setIfInBounds i true).getD m false with
          | false => rfl
          | true =>
            rcases hL.1 hd with e | e
            · exact absurd e.symm hm
            · rw [hc] at e; cases e
      rw [h1]
      by_cases hlt : i < m
      · rw [if_pos hlt] at ih
        rw [if_pos (show i < m + 1 by omega)]
        omega
      · rw [if_neg hlt] at ih
        rw [if_neg (show ¬ i < m + 1 by omega)]
        omega

section
variable {K : Tab} {all : List Oper} {n : Nat} {pl : List DI} {τ : Nat → AT} {η : Nat → AH} {val : Nat → AV}
variable {φ0 : Phi} {w0 : World}

theorem ready_mem {listed : Array Bool} {i : Nat} (h : i ∈ Region.ready .any all.toArray listed) : i < all.length ∧ listed.getD i true = false ∧ ∀ o, all[i]? = some o → ∀ e ∈ o.after.toList, Region.binds .any e = true → isL listed e.on := by
  unfold Region.ready at h
  simp only [List.mem_filter, List.mem_range, List.size_toArray, Bool.and_eq_true, Bool.not_eq_true'] at h
  obtain ⟨h1, h2, h3⟩ := h
  refine ⟨h1, h2, fun o ho e he hb => ?_⟩
  have ho' : all.toArray[i]? = some o := by simpa using ho
  rw [ho'] at h3
  simp only [Option.map_some, Option.getD_some] at h3
  rw [← Array.all_toList, List.all_eq_true] at h3
  have := h3 e he
  simp only [hb, Bool.not_true, Bool.false_or] at this
  exact this
theorem ready_of {listed : Array Bool} {i : Nat} (hi : i < all.length) (hu : listed.getD i true = false) (hr : ∀ o, all[i]? = some o → ∀ e ∈ o.after.toList, Region.binds .any e = true → isL listed e.on) :
    i ∈ Region.ready .any all.toArray listed := by
  unfold Region.ready
  simp only [List.mem_filter, List.mem_range, List.size_toArray, Bool.and_eq_true, Bool.not_eq_true']
  refine ⟨hi, hu, ?_⟩
  have ho : all[i]? = some all[i] := by simp [hi]
  have ho' : all.toArray[i]? = some all[i] := by simp
  rw [ho']
  simp only [Option.map_some, Option.getD_some]
  rw [← Array.all_toList, List.all_eq_true]
  intro e he
  cases hb : Region.binds .any e with
  | false => rfl
  | true => exact hr _ ho e he hb

theorem getD_true {listed : Array Bool} {i : Nat} (hi : i < listed.size) : listed.getD i true = listed.getD i false := by
  simp [Array.getD_eq_getD_getElem?, hi]

/-- If none may come next, all are out. -/
theorem all_out (hP : Plan all pl) {listed : Array Bool} (hsz : listed.size = all.length) (h : Region.ready .any all.toArray listed = []) : ∀ i, i < all.length → isL listed i := by
  intro i
  induction i using Nat.strongRecOn with
  | _ i ih =>
    intro hi
    cases hc : listed.getD i false with
    | true => exact hc
    | false =>
      exfalso
      have hm : i ∈ Region.ready .any all.toArray listed := by
        refine ready_of hi (by rw [getD_true (by omega)]; exact hc) fun o ho e he hb => ?_
        obtain ⟨p, s, h1, h2⟩ := hP.all' i hi
        have hs := (hP.sound p s h1).here
        rw [h2, ho] at hs
        cases hs
        have hlt := hP.back p s h1 e he hb
        rw [h2] at hlt
        exact ih e.on hlt (by omega)
      rw [h] at hm; cases hm

theorem τ_keep (hT : Traced K all n pl [] τ η val) : ∀ p, p ≤ pl.length → (τ p).get n = (τ 0).get n
  | 0, _ => rfl
  | p + 1, h => by
    have hst := hT p pl[p] (by simp [show p < pl.length by omega])
    rw [hst.put, ← τ_keep hT p (by omega)]
    cases hd : pl[p].o.dst with
    | none => rfl
    | some d =>
      have h1 : ¬ n = d := fun e => absurd (hst.dst d hd) (by rw [← e]; exact Nat.lt_irrefl _)
      simp only [putT, Trie.get_set]
      rw [if_neg h1]
theorem Mid.done (hP : Plan all pl) (hT : Traced K all n pl [] τ η val) {listed : Array Bool} {φ : Phi} {a : Act} {w : World} (hI : Mid all n pl τ η val φ0 w0 listed φ a w) (hall : ∀ i, i < all.length → isL listed i) :
    Goes φ0 (η 0).get (η 0).next w0 φ (η pl.length).get (η pl.length).next w ∧ TR φ (τ pl.length) n a := by
  obtain ⟨q, hM⟩ := hI.mem
  have hle : φ0.le φ := hM.goes.le
  refine ⟨?_, fun t v hv => ?_, hI.asize, (hI.defers.mono hle).congr (τ_keep hT _ (Nat.le_refl _))⟩
  · have hG : Gam pl η q = Gam pl η pl.length := Gam_seg hT hM.le (Nat.le_refl _) fun j t h1 h2 h3 h4 => by
      have := (hM.iff j t h3 h4).1 (hall _ (hP.lt j t h3)); omega
    have hE : Gam pl η pl.length = (η pl.length).get := by
      funext b
      unfold Gam
      rw [if_neg (by omega)]
    rw [← hE, ← hG]
    exact hM.goes
  · rcases slot_of hT t pl.length (Nat.le_refl _) v hv with ⟨j, sj, h1, h2, h3, h4, h5⟩ | ⟨h1, h2⟩
    · have hLj := hall _ (hP.lt j sj h2)
      rcases hI.tmps t with ⟨p1, s1, g1, g2, g3, g4, g5⟩ | ⟨g1, g2⟩
      · have hp1 : p1 < pl.length := (List.getElem?_eq_some_iff.1 g1).1
        have hj1 := g4 j sj h2 hLj h3
        have : p1 = j := by
          rcases Nat.lt_or_ge j p1 with hh | hh
          · exact absurd g3 (h5 p1 s1 hh hp1 g1)
          · omega
        subst this
        subst h4
        exact conc_mono (cut_le _ _) _ g5
      · exact absurd h3 (g1 j sj h2 hLj)
    · rcases hI.tmps t with ⟨p1, s1, g1, g2, g3, g4, g5⟩ | ⟨g1, g2⟩
      · exact absurd g3 (h1 p1 s1 (List.getElem?_eq_some_iff.1 g1).1 g1)
      · exact conc_mono (cut_le _ _) _ (g2 v h2)

theorem Mid.any (hP : Plan all pl) (hT : Traced K all n pl [] τ η val) (hg : Glob K.ng φ0) (hfr : ∀ b, (η 0).next ≤ b → b < (η pl.length).next → φ0 b = none) (Q : Post)
    (hQ : ∀ φ a w, Goes φ0 (η 0).get (η 0).next w0 φ (η pl.length).get (η pl.length).next w → TR φ (τ pl.length) n a → Q .normal a w) :
    ∀ (fuel : Nat) (listed : Array Bool) (φ : Phi) (a : Act) (w : World), Mid all n pl τ η val φ0 w0 listed φ a w → unDone listed all.length ≤ fuel → AnyW K.P all.toArray Q fuel listed a w := by
  intro fuel
  induction fuel with
  | zero =>
    intro listed φ a w hI hu
    have hall := unDone_zero (m := all.length) (by omega) (listed := listed)
    refine ⟨?_, ?_⟩
    · apply List.eq_nil_iff_forall_not_mem.2
      intro i hi
      obtain ⟨h1, h2, _⟩ := ready_mem hi
      rw [getD_true (by rw [hI.size]; exact h1)] at h2
      have := hall i h1
      unfold isL at this
      rw [h2] at this; cases this
    · obtain ⟨h1, h2⟩ := hI.done hP hT hall
      exact hQ φ a w h1 h2
  | succ fuel ih =>
    intro listed φ a w hI hu
    refine ⟨fun hnil => ?_, fun i hi => ?_⟩
    · obtain ⟨h1, h2⟩ := hI.done hP hT (all_out hP hI.size hnil)
      exact hQ φ a w h1 h2
    · obtain ⟨h1, h2, h3⟩ := ready_mem hi
      obtain ⟨p, s, g1, rfl⟩ := hP.all' i h1
      have hs := (hP.sound p s g1).here
      have hsz : s.idx < listed.size := by rw [hI.size]; exact h1
      have hun : ¬ isL listed s.idx := by
        unfold isL
        rw [← getD_true hsz, h2]; simp
      have hstep := hI.step hP hT hg hfr ⟨g1, hun, h3⟩ (AnyW K.P all.toArray Q fuel (listed.setIfInBounds s.idx true)) Q fun φ' a' w' hI' => by
        have hset := unDone_set hsz hun all.length
        rw [if_pos h1] at hset
        exact ih _ φ' a' w' hI' (by omega)
      unfold opAt
      have ho : all.toArray[s.idx]? = some s.o := by simpa using hs
      rw [ho]
      exact hstep

end

theorem drawC_good {K : Tab} (hK : K.Ok) : DrGood K true (fun n call ops => drawC K n call ops) := by
  intro n call hf ops T H k h
  obtain ⟨pl, hP, h⟩ := drawC_plan K n call ops.toList T H k h
  obtain ⟨τ, η, val, rfl, rfl, hT, hk⟩ := cDraw_trace hK hf ops.toList pl T H [] k h
  have hN := hT.mono (Nat.zero_le _) (Nat.le_refl pl.length)
  refine ⟨fun e T' H' => e = .normal ∧ T' = τ pl.length ∧ H' = η pl.length, fun e T' H' he => by rw [he.1, he.2.1, he.2.2]; exact hk,
    ⟨⟨_, _, _, rfl, rfl, rfl⟩, fun e T' H' he => by rw [he.2.2]; exact hN, fun φ a w ht hg hw hfr Q hQ => ?_⟩, fun _ => ⟨_, _, _, fun _ _ _ he => he⟩⟩
  have hfr' : ∀ b, (η 0).next ≤ b → b < (η pl.length).next → φ b = none := fun b h1 h2 => hfr b h1 ⟨_, _, _, ⟨rfl, rfl, rfl⟩, h2⟩
  have hcle : φ.le (cut pl η 0 φ) := fun b L hb => by
    unfold cut
    rw [if_neg fun hh => ?_]
    · exact hb
    · rw [hfr' b hh.1 hh.2] at hb; cases hb
  have hGet : ∀ b L, φ b = some L → Gam pl η 0 b = (η 0).get b := fun b L hb => by
    unfold Gam
    rw [if_neg fun hh => ?_]
    rw [hfr' b hh.1 hh.2] at hb; cases hb
  have hunl : ∀ i, ¬ isL (Array.replicate ops.size false) i := fun i => by
    unfold isL
    simp only [Array.getD_eq_getD_getElem?, Array.getElem?_replicate]
    split <;> simp
  have hI : Mid ops.toList n pl τ η val φ w (Array.replicate ops.size false) φ a { w with drawn := w.drawn + 1 } := by
    refine ⟨fun i o _ hl => absurd hl (hunl i), by simp, ⟨0, Nat.zero_le _, .inl rfl, fun p s _ _ => ⟨fun hl => absurd hl (hunl _), fun hl => absurd hl (by omega)⟩,
      ⟨Phi.le_refl φ, fun b hb => absurd rfl hb, ⟨fun b blk L hb hL => ?_, fun b b' blk blk' L L' hb hb' hL hL' he => ?_⟩, fun _ _ _ => rfl, Nat.le_refl _, fun b blk L hb hL => ?_, rfl, rfl⟩, fun b blk L hb hL => ?_, fun p b blk L _ hl hL => ?_⟩,
      fun b h1 h2 hb => absurd (hfr' b h1 h2) hb, fun t => .inr ⟨fun p s _ hl => absurd hl (hunl _), fun v hv => conc_mono hcle _ (ht.val t v hv)⟩, ht.size, ht.defers⟩
    · exact hw.real b blk L (by rw [← hGet b L hL]; exact hb) hL
    · exact hw.inj b b' blk blk' L L' (by rw [← hGet b L hL]; exact hb) (by rw [← hGet b' L' hL']; exact hb') hL hL' he
    · exact .inr ⟨b, blk, L, by rw [← hGet b L hL]; exact hb, hL, rfl, id⟩
    · obtain ⟨o, g1, g2⟩ := hw.real b blk L hb (cut_le 0 φ b L hL)
      exact ⟨o, g1, g2.mono hcle⟩
    · have h1 := hT.mono (Nat.zero_le p) (by have := hl.1; omega)
      have h2 := hT.mono (show p + 1 ≤ pl.length by have := hl.1; omega) (Nat.le_refl _)
      have e1 := hl.2.1
      have e2 := hl.2.2.1
      rw [hfr' b (by omega) (by omega)] at hL; cases hL
  unfold DrawW
  have hun : ∀ m, unDone (Array.replicate ops.size false) m ≤ m := fun m => by
    induction m with
    | zero => simp [unDone]
    | succ m ih => unfold unDone; split <;> omega
  have hany := Mid.any hP hT hg hfr' Q (fun ψ a' w' hgo ht' => hQ .normal _ _ ψ a' w' ⟨rfl, rfl, rfl⟩ hgo ht') ops.size (Array.replicate ops.size false) φ a _ hI (by simpa using hun ops.size)
  simpa using hany

end GoX
