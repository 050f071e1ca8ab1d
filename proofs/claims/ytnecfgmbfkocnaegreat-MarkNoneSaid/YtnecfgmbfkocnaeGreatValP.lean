/-
  A CALL THAT THE RUN HAS ENDED: what is known of its value, where that names memory. No function is named here.
-/
import Derived.Test.YtnecfgmbfkocnaeGreatCalms
namespace Go.Proofs.YtnecfgmbfkocnaeGreat
open Go.ChangeShapes Go.WideShapes Go.ChangeAt Go.RowKit
open GoX in
theorem val_ofP {K : Tab} (hK : K.Ok) {ng : Nat} (hng : K.ng = ng) (hN : ∀ (f : Nat) fn, K.P.funcs[f]? = some fn → (fn.name == "runtime.NumGoroutine") = false) {js : List Nat} {lf d : Nat} {f : FuncId} {args : List AV} {l : List TabL}
    {k : AV → Bool} (h : (denJ K js lf (fun n call ops => drawC K n call ops) d f).go args ⟨ng, tabsT l⟩ (fun v _ => k v) = true) {xs : List Value} (hx : concs (phiG ng) args = some xs) (w : World)
    (hl : ∀ x ∈ l, x.g < ng ∧ x.lies w) (hm : isMark args = false := by rfl) :
    Calls K.P f xs.toArray w fun e w' => (∃ v ψ x, e = .returned x ∧ k v = true ∧ conc ψ v = some x) ∧ GoX.Calm w w' := by
  have hget : ∀ b blk, (AH.mk ng (tabsT l)).get b = some blk → ∃ x ∈ l, b = x.g ∧ blk = x.blk := fun b blk hb => tabsT_get hb
  refine (calls_ofJ hK hN h (φ := phiG ng) hx (fun g hgl => by simp [phiG, hng ▸ hgl]) ⟨fun b blk L hb hL => ?_, fun b b' blk blk' L L' hb hb' hL hL' he => ?_⟩ (fun b hb => ?_) (fun b blk hb => ?_) hm).mono fun e w' hh => ?_
  · obtain ⟨x, hx, rfl, rfl⟩ := hget b blk hb
    obtain ⟨hlt, hlie⟩ := hl x hx
    simp only [phiG, hlt, if_true, Option.some.injEq] at hL
    subst hL
    exact ⟨_, hlie, _, x.same _, rfl, rfl⟩
  · have h1 : ∀ c M, phiG ng c = some M → M.b = c := fun c M hM => by
      simp only [phiG] at hM
      split at hM
      · cases hM; rfl
      · cases hM
    rw [← h1 b L hL, ← h1 b' L' hL', he]
  · have : ¬ b < ng := by simpa using hb
    simp [phiG, this]
  · obtain ⟨x, hx, rfl, rfl⟩ := hget b blk hb
    rfl
  · obtain ⟨v, H', ψ, x, rfl, hk, hcx, _, hc⟩ := hh
    exact ⟨⟨v, ψ, x, rfl, hk, hcx⟩, hc⟩
/-- A mark that is over. -/
def isOver : GoX.AV → Bool
  | .agg [_, .bool true, _, _, _] => true
  | _ => false
theorem isOver_ok {v : GoX.AV} (h : isOver v = true) {ψ : Nat → Option GoX.Loc} {x : Value} (hx : GoX.conc ψ v = some x) : ∃ a b c d, x = .agg #[a, .bool true, b, c, d] := by
  unfold isOver at h
  split at h
  · rename_i a b c d
    simp only [GoX.conc, GoX.concs] at hx
    generalize GoX.conc ψ a = A at hx
    generalize GoX.conc ψ b = B at hx
    generalize GoX.conc ψ c = C at hx
    generalize GoX.conc ψ d = D at hx
    cases A <;> cases B <;> cases C <;> cases D <;> simp at hx
    exact ⟨_, _, _, _, hx.symm⟩
  · cases h
end Go.Proofs.YtnecfgmbfkocnaeGreat
