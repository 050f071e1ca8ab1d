/-
  ROWS OF OPERATIONS WHOSE ORDER IS DRAWN: each step, and all of them. No program is named here.
-/
import Derived.Test.YtnmjhbnadfjapaaXCode8
namespace GoX
open Go

theorem first_of {P : Nat → Prop} {q p : Nat} (h : ∃ h, q ≤ h ∧ h < p ∧ P h) : ∃ h, q ≤ h ∧ h < p ∧ P h ∧ ∀ j, q ≤ j → j < h → ¬ P j := by
  obtain ⟨h, h1, h2, h3⟩ := h
  induction h using Nat.strongRecOn with
  | _ h ih =>
    by_cases hj : ∃ j, q ≤ j ∧ j < h ∧ P j
    · obtain ⟨j, g1, g2, g3⟩ := hj
      exact ih j g2 g1 (by omega) g3
    · exact ⟨h, h1, h2, h3, fun j g1 g2 g3 => hj ⟨j, g1, g2, g3⟩⟩

section
variable {K : Tab} {all : List Oper} {n : Nat} {pl : List DI} {τ : Nat → AT} {η : Nat → AH} {val : Nat → AV}
variable {φ0 : Phi} {w0 : World} {listed : Array Bool} {φ : Phi} {a : Act} {w : World}

theorem lay_some {b : Nat} {blk : Blk} (h : lay pl η b = some blk) : ∃ p, LayAt pl η p b blk := by
  unfold lay at h
  split at h
  · rename_i hex
    obtain ⟨p, hp⟩ := hex.choose_spec
    injection h with h
    rw [h] at hp
    exact ⟨p, hp⟩
  · cases h
theorem lay_once (hT : Traced K all n pl [] τ η val) {p p' b : Nat} {blk blk' : Blk} (h : LayAt pl η p b blk) (h' : LayAt pl η p' b blk') : p = p' ∧ blk = blk' := by
  have e1 := lay_eq hT h
  have e2 := lay_eq hT h'
  rw [e1] at e2
  refine ⟨?_, Option.some.inj e2⟩
  rcases Nat.lt_trichotomy p p' with hlt | heq | hlt
  · have := hT.mono (show p + 1 ≤ p' by omega) (by have := h'.1; omega)
    rw [h.2.2.1, h'.2.1] at this; omega
  · exact heq
  · have := hT.mono (show p' + 1 ≤ p by omega) (by have := h.1; omega)
    rw [h'.2.2.1, h.2.1] at this; omega

def NoHeavy (pl : List DI) (q p : Nat) : Prop := ∀ h s, q ≤ h → h < p → pl[h]? = some s → s.kind ≠ 2

/-- Memory, told from a later place on, if nothing between changes it. -/
theorem MemAt.wr_at (hT : Traced K all n pl [] τ η val) {q : Nat} (hM : MemAt pl η φ0 w0 listed φ w q) {r : Nat} (hqr : q ≤ r) (hr : r ≤ pl.length) (hno : NoHeavy pl q r) : WR (cut pl η r φ) (η r).get w := by
  have hG : Gam pl η q = Gam pl η r := Gam_seg hT hqr hr hno
  have hcut : ∀ b L, cut pl η r φ b = some L → ¬ ((η r).next ≤ b ∧ b < (η pl.length).next) ∧ φ b = some L := fun b L h => by
    unfold cut at h
    split at h
    · cases h
    · rename_i hn; exact ⟨hn, h⟩
  have hget : ∀ b L, cut pl η r φ b = some L → (η r).get b = Gam pl η q b := fun b L h => by
    rw [hG]; unfold Gam; rw [if_neg (hcut b L h).1]
  have hmono := hT.mono hqr hr
  refine ⟨fun b blk L hb hL => ?_, fun b b' blk blk' L L' hb hb' hL hL' he => ?_⟩
  · have h1 := (hget b L hL).symm.trans hb
    by_cases hin : (η q).next ≤ b ∧ b < (η pl.length).next
    · have h2 : lay pl η b = some blk := by
        have : Gam pl η q b = lay pl η b := by unfold Gam; rw [if_pos hin]
        rw [← this]; exact h1
      obtain ⟨p, hp⟩ := lay_some h2
      have hqp : q ≤ p := by
        rcases Nat.lt_or_ge p q with h | h
        · have := hT.mono (show p + 1 ≤ q by omega) hM.le
          rw [hp.2.2.1] at this; omega
        · exact h
      have hpr : p < r := by
        rcases Nat.lt_or_ge p r with h | h
        · exact h
        · have := hT.mono h (by have := hp.1; omega)
          have := (hcut b L hL).1
          rw [hp.2.1] at *
          omega
      obtain ⟨o, g1, g2⟩ := hM.c2 p b blk L hqp hp (hcut b L hL).2
      exact ⟨o, g1, g2.mono (cut_mono hT (by omega) hr (Phi.le_refl φ))⟩
    · have h2 : (η q).get b = some blk := by
        have : Gam pl η q b = (η q).get b := by unfold Gam; rw [if_neg hin]
        rw [← this]; exact h1
      obtain ⟨o, g1, g2⟩ := hM.c1 b blk L h2 (by unfold cut; rw [if_neg hin]; exact (hcut b L hL).2)
      exact ⟨o, g1, g2.mono (cut_mono hT hqr hr (Phi.le_refl φ))⟩
  · exact hM.goes.wr.inj b b' blk blk' L L' ((hget b L hL).symm.trans hb) ((hget b' L' hL').symm.trans hb') (hcut b L hL).2 (hcut b' L' hL').2 he

/-- It stands behind the last of kind 2 that is out. -/
theorem MemAt.ge (hP : Plan all pl) (hI : Mid all n pl τ η val φ0 w0 listed φ a w) {q : Nat} (hM : MemAt pl η φ0 w0 listed φ w q) {p : Nat} {s : DI} (h : May all pl listed p s) : q ≤ p := by
  rcases hM.least with rfl | ⟨r, t, rfl, hr, hk⟩
  · exact Nat.zero_le _
  · have hl := (hM.iff r t hr hk).2 (by omega)
    rcases Nat.lt_trichotomy r p with hh | hh | hh
    · exact hh
    · subst hh; rw [h.here] at hr; cases hr; exact absurd hl h.un
    · exact absurd hl (h.behind hP hI hh hr (tied_heavy hk))

theorem MemAt.noHeavy (hP : Plan all pl) (hI : Mid all n pl τ η val φ0 w0 listed φ a w) {q : Nat} (hM : MemAt pl η φ0 w0 listed φ w q) {p : Nat} {s : DI} (h : May all pl listed p s) (hk : s.kind = 2) : NoHeavy pl q p :=
  fun j t h1 h2 h3 h4 => by
    have := (hM.iff j t h3 h4).1 (h.before hP hI h2 h3 (tied_heavy hk))
    omega

/-- The same memory, one more listed that is not of kind 2. -/
theorem MemAt.other (hP : Plan all pl) (hI : Mid all n pl τ η val φ0 w0 listed φ a w) {q : Nat} (hM : MemAt pl η φ0 w0 listed φ w q) {p : Nat} {s : DI} (h : May all pl listed p s) (hk : s.kind ≠ 2) :
    ∀ (p' : Nat) (s' : DI), pl[p']? = some s' → s'.kind = 2 → (isL (listed.setIfInBounds s.idx true) s'.idx ↔ p' < q) := fun p' s' h1 h2 => by
  have hidx : s.idx < listed.size := by rw [hI.size]; exact hP.lt p s h.here
  rw [isL_set hidx, ← hM.iff p' s' h1 h2]
  constructor
  · rintro (e | e)
    · obtain rfl := hP.once p' p s' s h1 h.here e
      rw [h.here] at h1; cases h1
      exact absurd h2 hk
    · exact e
  · exact .inr
theorem MemAt.heavy (hP : Plan all pl) (hI : Mid all n pl τ η val φ0 w0 listed φ a w) {q : Nat} (hM : MemAt pl η φ0 w0 listed φ w q) {p : Nat} {s : DI} (h : May all pl listed p s) (hk : s.kind = 2) :
    ∀ (p' : Nat) (s' : DI), pl[p']? = some s' → s'.kind = 2 → (isL (listed.setIfInBounds s.idx true) s'.idx ↔ p' < p + 1) := fun p' s' h1 h2 => by
  have hidx : s.idx < listed.size := by rw [hI.size]; exact hP.lt p s h.here
  have hq := hM.ge hP hI h
  rw [isL_set hidx]
  constructor
  · rintro (e | e)
    · have := hP.once p' p s' s h1 h.here e; omega
    · have := (hM.iff p' s' h1 h2).1 e; omega
  · intro hlt
    rcases Nat.lt_or_ge p' p with hh | hh
    · exact .inr (h.before hP hI hh h1 (tied_heavy hk))
    · have : p' = p := by omega
      subst this
      rw [h.here] at h1; cases h1
      exact .inl rfl

/-- What an operation of kind 2 did, with what was laid early. -/
theorem heavy_goes (hT : Traced K all n pl [] τ η val) {p : Nat} (hp : p < pl.length) {w' : World} {ψ' : Phi} (hwr : WR φ (Gam pl η p) w) (hφ : ∀ b, (η p).next ≤ b → b < (η (p + 1)).next → φ b = none)
    (h : Goes (cut pl η p φ) (η p).get (η p).next w ψ' (η (p + 1)).get (η (p + 1)).next w') :
    ∃ ψ : Phi, Goes φ (Gam pl η p) (η p).next w ψ (Gam pl η (p + 1)) (η (p + 1)).next w' ∧ ψ'.le (cut pl η (p + 1) ψ) ∧ (∀ b L, cut pl η (p + 1) ψ b = some L → ψ' b = some L) ∧
      (∀ b, (η (p + 1)).next ≤ b → b < (η pl.length).next → ψ b = φ b) ∧
      ∀ b blk L, (η (p + 1)).next ≤ b → b < (η pl.length).next → Gam pl η p b = some blk → φ b = some L → w'.heap[L.b]? = w.heap[L.b]? := by
  have hn := hT.mono (show p ≤ p + 1 by omega) (show p + 1 ≤ pl.length by omega)
  have hN := hT.mono (show p + 1 ≤ pl.length by omega) (Nat.le_refl _)
  have hlate : ∀ b, (η (p + 1)).next ≤ b → b < (η pl.length).next → ψ' b = none := fun b h1 h2 => by
    have hc : cut pl η p φ b = none := by unfold cut; rw [if_pos ⟨by omega, h2⟩]
    by_cases hne : ψ' b = cut pl η p φ b
    · rw [hne, hc]
    · have := h.new b hne; omega
  have hGlow : ∀ b, ¬ ((η p).next ≤ b ∧ b < (η pl.length).next) → Gam pl η p b = (η p).get b := fun b hb => by unfold Gam; rw [if_neg hb]
  have hGmid : ∀ b, (η (p + 1)).next ≤ b → b < (η pl.length).next → Gam pl η (p + 1) b = Gam pl η p b := fun b h1 h2 => by
    unfold Gam; rw [if_pos ⟨h1, h2⟩, if_pos ⟨by omega, h2⟩]
  have hGout : ∀ b, ¬ ((η (p + 1)).next ≤ b ∧ b < (η pl.length).next) → Gam pl η (p + 1) b = (η (p + 1)).get b := fun b hb => by unfold Gam; rw [if_neg hb]
  have hcut : ∀ b L, cut pl η p φ b = some L → ¬ ((η p).next ≤ b ∧ b < (η pl.length).next) ∧ φ b = some L := fun b L h => by
    unfold cut at h
    split at h
    · cases h
    · rename_i hn; exact ⟨hn, h⟩
  have hkeep : ∀ b blk L, (η (p + 1)).next ≤ b → b < (η pl.length).next → Gam pl η p b = some blk → φ b = some L → w'.heap[L.b]? = w.heap[L.b]? := fun b blk L h1 h2 hb hL => by
    refine h.keep L.b (hwr.bound hb hL) fun b' blk' L' hb' _ hL' he => ?_
    obtain ⟨g1, g2⟩ := hcut b' L' hL'
    have := hwr.inj b' b blk' blk L' L (by rw [hGlow b' g1]; exact hb') hb g2 hL he
    omega
  let ψ : Phi := fun b => if (η (p + 1)).next ≤ b ∧ b < (η pl.length).next then φ b else ψ' b
  have hψin : ∀ b, (η (p + 1)).next ≤ b ∧ b < (η pl.length).next → ψ b = φ b := fun b hb => if_pos hb
  have hψout : ∀ b, ¬ ((η (p + 1)).next ≤ b ∧ b < (η pl.length).next) → ψ b = ψ' b := fun b hb => if_neg hb
  have hle' : ψ'.le ψ := fun b L hb => by
    by_cases hin : (η (p + 1)).next ≤ b ∧ b < (η pl.length).next
    · rw [hlate b hin.1 hin.2] at hb; cases hb
    · rw [hψout b hin]; exact hb
  have hle : φ.le ψ := fun b L hb => by
    by_cases hin : (η (p + 1)).next ≤ b ∧ b < (η pl.length).next
    · rw [hψin b hin]; exact hb
    · rw [hψout b hin]
      refine h.le b L ?_
      unfold cut
      rw [if_neg fun hh => ?_]
      · exact hb
      · rw [hφ b hh.1 (by omega)] at hb; cases hb
  refine ⟨ψ, ⟨hle, fun b hb => ?_, ⟨fun b blk L hb hL => ?_, fun b b' blk blk' L L' hb hb' hL hL' he => ?_⟩, fun c hc hno => ?_, h.size, fun b blk L hb hL => ?_, h.os, h.output⟩, fun b L hb => ?_, fun b L hb => ?_,
    fun b h1 h2 => hψin b ⟨h1, h2⟩, hkeep⟩
  · by_cases hin : (η (p + 1)).next ≤ b ∧ b < (η pl.length).next
    · exact absurd (hψin b hin) hb
    · rw [hψout b hin] at hb
      by_cases hin' : (η p).next ≤ b ∧ b < (η pl.length).next
      · omega
      · have hc : cut pl η p φ b = φ b := by unfold cut; rw [if_neg hin']
        rw [← hc] at hb
        exact h.new b hb
  · by_cases hin : (η (p + 1)).next ≤ b ∧ b < (η pl.length).next
    · rw [hGmid b hin.1 hin.2] at hb
      rw [hψin b hin] at hL
      obtain ⟨o, g1, g2⟩ := hwr.real b blk L hb hL
      exact ⟨o, by rw [hkeep b blk L hin.1 hin.2 hb hL]; exact g1, g2.mono hle⟩
    · rw [hGout b hin] at hb
      rw [hψout b hin] at hL
      obtain ⟨o, g1, g2⟩ := h.wr.real b blk L hb hL
      exact ⟨o, g1, g2.mono hle'⟩
  · have hmix : ∀ b b' blk blk' L L', ((η (p + 1)).next ≤ b ∧ b < (η pl.length).next) → ¬ ((η (p + 1)).next ≤ b' ∧ b' < (η pl.length).next) → Gam pl η (p + 1) b = some blk → Gam pl η (p + 1) b' = some blk' →
        ψ b = some L → ψ b' = some L' → L.b = L'.b → False := fun b b' blk blk' L L' hin hout hb hb' hL hL' he => by
      rw [hGmid b hin.1 hin.2] at hb
      rw [hψin b hin] at hL
      rw [hGout b' hout] at hb'
      rw [hψout b' hout] at hL'
      have hbd := hwr.bound hb hL
      rcases h.foot b' blk' L' hb' hL' with hf | ⟨b₀, blk₀, L₀, g1, g2, g3, g4⟩
      · omega
      · obtain ⟨k1, k2⟩ := hcut b₀ L₀ g2
        have := hwr.inj b₀ b blk₀ blk L₀ L (by rw [hGlow b₀ k1]; exact g1) hb k2 hL (by rw [g3, he])
        omega
    by_cases hin : (η (p + 1)).next ≤ b ∧ b < (η pl.length).next <;> by_cases hin' : (η (p + 1)).next ≤ b' ∧ b' < (η pl.length).next
    · rw [hGmid b hin.1 hin.2] at hb
      rw [hψin b hin] at hL
      rw [hGmid b' hin'.1 hin'.2] at hb'
      rw [hψin b' hin'] at hL'
      exact hwr.inj b b' _ _ _ _ hb hb' hL hL' he
    · exact (hmix b b' _ _ _ _ hin hin' hb hb' hL hL' he).elim
    · exact (hmix b' b _ _ _ _ hin' hin hb' hb hL' hL he.symm).elim
    · rw [hGout b hin] at hb
      rw [hψout b hin] at hL
      rw [hGout b' hin'] at hb'
      rw [hψout b' hin'] at hL'
      exact h.wr.inj b b' _ _ _ _ hb hb' hL hL' he
  · refine h.keep c hc fun b blk L hb hm hL => ?_
    obtain ⟨k1, k2⟩ := hcut b L hL
    exact hno b blk L (by rw [hGlow b k1]; exact hb) hm k2
  · by_cases hin : (η (p + 1)).next ≤ b ∧ b < (η pl.length).next
    · rw [hGmid b hin.1 hin.2] at hb
      rw [hψin b hin] at hL
      exact .inr ⟨b, blk, L, hb, hL, rfl, id⟩
    · rw [hGout b hin] at hb
      rw [hψout b hin] at hL
      rcases h.foot b blk L hb hL with hf | ⟨b₀, blk₀, L₀, g1, g2, g3, g4⟩
      · exact .inl hf
      · obtain ⟨k1, k2⟩ := hcut b₀ L₀ g2
        exact .inr ⟨b₀, blk₀, L₀, by rw [hGlow b₀ k1]; exact g1, k2, g3, g4⟩
  · unfold cut
    rw [if_neg fun hh => ?_]
    · exact hle' b L hb
    · rw [hlate b hh.1 hh.2] at hb; cases hb
  · unfold cut at hb
    split at hb
    · cases hb
    · rename_i hin
      rw [hψout b hin] at hb; exact hb

end
end GoX
