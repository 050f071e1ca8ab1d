/-
  ROWS OF OPERATIONS WHOSE ORDER IS DRAWN: all orders at once. No program is named here.
-/
import Derived.Test.YtnmjhbnadfjapaaXCode9
namespace GoX
open Go

section
variable {K : Tab} {all : List Oper} {n : Nat} {pl : List DI} {τ : Nat → AT} {η : Nat → AH} {val : Nat → AV}
variable {φ0 : Phi} {w0 : World} {listed : Array Bool} {φ : Phi} {a : Act} {w : World}

/-- One that leaves all as it is. -/
theorem Mid.still (hP : Plan all pl) (hT : Traced K all n pl [] τ η val) (hI : Mid all n pl τ η val φ0 w0 listed φ a w) {p : Nat} {s : DI} (h : May all pl listed p s) (hη : η (p + 1) = η p) {x : Value}
    (hx : conc (cut pl η (p + 1) φ) (val p) = some x) : Mid all n pl τ η val φ0 w0 (listed.setIfInBounds s.idx true) φ (a.put s.o.dst x) w := by
  obtain ⟨q, hM⟩ := hI.mem
  refine hI.next hP hT h (Phi.le_refl φ) hx ?_ fun b _ _ hb => .inl hb
  by_cases hk : s.kind = 2
  · have hq := hM.ge hP hI h
    have hno := hM.noHeavy hP hI h hk
    have hlt := h.lt
    have hG : Gam pl η q = Gam pl η p := Gam_seg hT hq (by omega) hno
    have hG1 : Gam pl η (p + 1) = Gam pl η q := by rw [hG]; unfold Gam; rw [hη]
    have hc : cut pl η (p + 1) φ = cut pl η p φ := by unfold cut; rw [hη]
    have hw := hM.wr_at hT hq (by omega) hno
    refine ⟨p + 1, by omega, .inr ⟨p, s, rfl, h.here, hk⟩, hM.heavy hP hI h hk, by rw [hG1]; exact hM.goes, fun b blk L hb hL => ?_, fun p' b blk L hp' hl hL => hM.c2 p' b blk L (by omega) hl hL⟩
    rw [hη] at hb
    rw [hc] at hL ⊢
    exact hw.real b blk L hb hL
  · exact ⟨q, hM.le, hM.least, hM.other hP hI h hk, hM.goes, hM.c1, hM.c2⟩

theorem Mid.step (hP : Plan all pl) (hT : Traced K all n pl [] τ η val) (hg : Glob K.ng φ0) (hfr : ∀ b, (η 0).next ≤ b → b < (η pl.length).next → φ0 b = none)
    (hI : Mid all n pl τ η val φ0 w0 listed φ a w) {p : Nat} {s : DI} (h : May all pl listed p s) (next : Act → World → Prop) (Q : Post)
    (hn : ∀ φ' a' w', Mid all n pl τ η val φ0 w0 (listed.setIfInBounds s.idx true) φ' a' w' → next a' w') : opW K.P all.toArray s.o next Q a w := by
  have hst := hT p s h.here
  have hlt := h.lt
  rcases hst.act with ⟨hw, hv, hη⟩ | ⟨hw, hact⟩
  · unfold opW
    rw [hI.wanted hP hT h hw, if_neg (by simp)]
    exact hn _ _ _ (hI.still hP hT h hη (x := undef) (by rw [hv]; rfl))
  · unfold opW
    rw [hI.wanted hP hT h hw, if_pos rfl]
    obtain ⟨q, hM⟩ := hI.mem
    have hq := hM.ge hP hI h
    cases hact with
    | light hk hη hl =>
      have done : ∀ r (G : Nat → Option Blk), r ≤ p → OR K.ng (cut pl η r φ) (τ p) a s.o.op.operands.toList → WR (cut pl η r φ) G w → SimL K (τ p) G s.o.op (val p) → s.o.wp K.P a w next Q := fun r G hr hor hwr hs => by
        obtain ⟨x, hx, hrun⟩ := hs _ a w hor hwr
        exact wp_value (hrun s.o rfl) (hn _ _ _ (hI.still hP hT h hη (conc_mono (cut_mono hT (by omega) (by omega) (Phi.le_refl φ)) _ hx)))
      refine can_of_wp ?_
      rcases hl with hl | ⟨hl, hpast⟩
      · exact done p _ (Nat.le_refl p) (hI.or' hP hT hg hfr h (by omega) (.inl rfl)) ⟨fun b blk L hb _ => (by cases hb), fun b b' blk blk' L L' hb _ _ _ _ => (by cases hb)⟩ hl
      · by_cases hex : ∃ j, q ≤ j ∧ j < p ∧ ∃ t : DI, pl[j]? = some t ∧ t.kind = 2
        · obtain ⟨j, g1, g2, ⟨t, g3, g4⟩, g5⟩ := first_of hex
          have hun : ¬ isL listed t.idx := fun hl => by have := (hM.iff j t g3 g4).1 hl; omega
          rcases hpast (t.idx, η j) (.inr ⟨j, t, g2, g3, g4, rfl⟩) with hb | ⟨hlow, hs⟩
          · exact absurd (anc_ready hI.closed h.ready ((hP.sound p s h.here).anc _ hb)) hun
          · exact done j _ (by omega) (hI.or' hP hT hg hfr h (by omega) (.inr hlow)) (hM.wr_at hT g1 (by omega) fun j' t' k1 k2 k3 k4 => g5 j' k1 k2 ⟨t', k3, k4⟩) hs
        · exact done p _ (Nat.le_refl p) (hI.or' hP hT hg hfr h (by omega) (.inl rfl)) (hM.wr_at hT hq (by omega) fun j' t' k1 k2 k3 k4 => hex ⟨j', k1, k2, t', k3, k4⟩) hl
    | lays blk hk hs hget hnext =>
      have hlay : LayAt pl η p (η p).next blk := ⟨hlt, rfl, hnext, hget⟩
      have hN := hT.mono (show p + 1 ≤ pl.length by omega) (Nat.le_refl _)
      have h0 := hT.mono (Nat.zero_le p) (by omega)
      have hqn := hT.mono hq (by omega)
      have hφn : φ (η p).next = none := by
        cases hc : φ (η p).next with
        | none => rfl
        | some L =>
          obtain ⟨p1, s1, k1, k2, k3, k4⟩ := hI.range (η p).next h0 (by omega) (by rw [hc]; simp)
          have hp1 : p1 < pl.length := (List.getElem?_eq_some_iff.1 k1).1
          exfalso
          rcases Nat.lt_trichotomy p1 p with hh | hh | hh
          · have := hT.mono (show p1 + 1 ≤ p by omega) (by omega); omega
          · subst hh; rw [h.here] at k1; cases k1; exact h.un k2
          · have := hT.mono (show p + 1 ≤ p1 by omega) (by omega); omega
      have hcn : cut pl η p φ (η p).next = none := by
        unfold cut
        split
        · rfl
        · exact hφn
      obtain ⟨obj, x, hx, hr, hrun⟩ := hs (cut pl η p φ) a w (hI.or' hP hT hg hfr h (by omega) (.inl rfl)) hcn
      have hupd : Phi.le (upd (cut pl η p φ) (η p).next (some ⟨w.heap.size, 0, 0⟩)) (cut pl η (p + 1) (upd φ (η p).next (some ⟨w.heap.size, 0, 0⟩))) := fun b L hb => by
        unfold cut
        by_cases hbn : b = (η p).next
        · subst hbn
          rw [if_neg (by omega)]
          simpa [upd] using hb
        · simp only [upd, if_neg hbn] at hb
          have := cut_mono hT (show p ≤ p + 1 by omega) (by omega) (Phi.le_refl φ) b L hb
          unfold cut at this
          split at this
          · cases this
          · rename_i hno
            rw [if_neg hno]
            simp only [upd, if_neg hbn]
            exact this
      have hle := Phi.le_upd hφn (⟨w.heap.size, 0, 0⟩ : Loc)
      have hΓ : Gam pl η q (η p).next = some blk := by
        unfold Gam
        rw [if_pos ⟨hqn, by omega⟩]
        exact lay_eq hT hlay
      have hgo := goes_new (w' := { w with heap := w.heap.push obj }) hM.goes.wr hφn (hr.mono fun b L hb => cut_le _ _ b L (hupd b L hb)) rfl rfl rfl
      have hsame : upd (Gam pl η q) (η p).next (some blk) = Gam pl η q := by
        funext b
        unfold upd
        split
        · rename_i e; rw [e, hΓ]
        · rfl
      rw [hsame] at hgo
      refine can_of_wp (wp_value (hrun s.o rfl) (hn (upd φ (η p).next (some ⟨w.heap.size, 0, 0⟩)) _ _ (hI.next hP hT h hle (conc_mono hupd _ hx) ⟨q, hM.le, hM.least, hM.other hP hI h hk, hM.goes.and hgo h0 (by omega), ?_, ?_⟩ ?_)))
      · intro b blk' L hb hL
        have hbn : b ≠ (η p).next := fun e => by
          subst e
          unfold cut at hL
          rw [if_pos ⟨hqn, by omega⟩] at hL
          cases hL
        have hL' : cut pl η q φ b = some L := by
          unfold cut at hL ⊢
          split at hL
          · cases hL
          · rename_i hno
            rw [if_neg hno]
            simpa only [upd, if_neg hbn] using hL
        obtain ⟨o, k1, k2⟩ := hM.c1 b blk' L hb hL'
        have hsz : L.b < w.heap.size := (Array.getElem?_eq_some_iff.1 k1).1
        exact ⟨o, by rw [Array.getElem?_push_lt hsz]; rw [← k1]; simp [hsz], k2.mono (cut_mono hT (Nat.le_refl _) hM.le hle)⟩
      · intro p' b blk' L hp' hl hL
        by_cases hbn : b = (η p).next
        · subst hbn
          obtain ⟨rfl, rfl⟩ := lay_once hT hl hlay
          simp only [upd, if_pos] at hL
          cases hL
          exact ⟨obj, by simp, hr.mono hupd⟩
        · simp only [upd, if_neg hbn] at hL
          obtain ⟨o, k1, k2⟩ := hM.c2 p' b blk' L hp' hl hL
          have hsz : L.b < w.heap.size := (Array.getElem?_eq_some_iff.1 k1).1
          exact ⟨o, by rw [Array.getElem?_push_lt hsz]; rw [← k1]; simp [hsz], k2.mono (cut_mono hT (Nat.le_refl _) (by have := hl.1; omega) hle)⟩
      · intro b _ _ hb
        by_cases hbn : b = (η p).next
        · exact .inr ⟨by omega, by omega⟩
        · simp only [upd, if_neg hbn] at hb
          exact .inl hb
    | heavy hk hs =>
      have hno := hM.noHeavy hP hI h hk
      have hG : Gam pl η q = Gam pl η p := Gam_seg hT hq (by omega) hno
      have hN := hT.mono (show p + 1 ≤ pl.length by omega) (Nat.le_refl _)
      have h0 := hT.mono (Nat.zero_le p) (by omega)
      have hφn : ∀ b, (η p).next ≤ b → b < (η (p + 1)).next → φ b = none := fun b h1 h2 => by
        cases hc : φ b with
        | none => rfl
        | some L =>
          obtain ⟨p1, s1, k1, k2, k3, k4⟩ := hI.range b (by omega) (by omega) (by rw [hc]; simp)
          have hp1 : p1 < pl.length := (List.getElem?_eq_some_iff.1 k1).1
          exfalso
          rcases Nat.lt_trichotomy p1 p with hh | hh | hh
          · have := hT.mono (show p1 + 1 ≤ p by omega) (by omega); omega
          · subst hh; rw [h.here] at k1; cases k1; exact h.un k2
          · have := hT.mono (show p + 1 ≤ p1 by omega) (by omega); omega
      refine hs.2.2 (cut pl η p φ) a w (hI.or' hP hT hg hfr h (by omega) (.inl rfl)) (hI.glob hT hg hfr (by omega)) (hM.wr_at hT hq (by omega) hno) (fun b hb hex => ?_) s.o rfl next Q ?_
      · obtain ⟨v, H', ⟨_, rfl⟩, hlt'⟩ := hex
        unfold cut
        rw [if_pos ⟨hb, by omega⟩]
      · rintro v H' ψ' x w' ⟨rfl, rfl⟩ hgo hx
        have hwr : WR φ (Gam pl η p) w := by rw [← hG]; exact hM.goes.wr
        obtain ⟨ψ, k1, k2, k3, k4, k5⟩ := heavy_goes hT hlt hwr hφn hgo
        have hgo' : Goes φ0 (η 0).get (η 0).next w0 ψ (Gam pl η (p + 1)) (η pl.length).next w' := by
          have := hM.goes
          rw [hG] at this
          exact this.and k1 h0 hN
        refine hn ψ _ _ (hI.next hP hT h k1.le (conc_mono k2 _ hx) ⟨p + 1, by omega, .inr ⟨p, s, rfl, h.here, hk⟩, hM.heavy hP hI h hk, hgo', fun b blk L hb hL => ?_, fun p' b blk L hp' hl hL => ?_⟩ fun b _ _ hb => ?_)
        · obtain ⟨o, m1, m2⟩ := hgo.wr.real b blk L hb (k3 b L hL)
          exact ⟨o, m1, m2.mono k2⟩
        · have hb1 := hT.mono hp' (by have := hl.1; omega)
          have hb2 := hT.mono (show p' + 1 ≤ pl.length by have := hl.1; omega) (Nat.le_refl _)
          have e1 := hl.2.1
          have e2 := hl.2.2.1
          rw [k4 b (by omega) (by omega)] at hL
          obtain ⟨o, m1, m2⟩ := hM.c2 p' b blk L (by omega) hl hL
          have hΓ : Gam pl η p b = some blk := by
            unfold Gam
            rw [if_pos ⟨by have := hT.mono (show p ≤ p + 1 by omega) (by omega); omega, by omega⟩]
            exact lay_eq hT hl
          exact ⟨o, by rw [k5 b blk L (by omega) (by omega) hΓ hL]; exact m1, m2.mono (cut_mono hT (Nat.le_refl _) (by have := hl.1; omega) k1.le)⟩
        · by_cases hne : ψ b = φ b
          · exact .inl (by rw [← hne]; exact hb)
          · exact .inr (k1.new b hne)
end
end GoX
