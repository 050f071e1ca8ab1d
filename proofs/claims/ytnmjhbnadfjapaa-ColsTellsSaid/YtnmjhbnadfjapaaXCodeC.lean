/-
  A CALL OF A FUNCTION, as the kernel has run it: what it returns, and that of what was there nothing turns. No program is named here.
-/
import Derived.Test.YtnmjhbnadfjapaaXCodeB
import GoSem.ClaimChange
namespace GoX
open Go

/-- Of what was there nothing turns. -/
structure Calm (W W' : World) : Prop where
  kept : W.keptBut W' (fun _ => False)
  frozen : ∀ a : Addr, a.block < W.heap.size → W'.frozen? a = W.frozen? a
  size : W.heap.size ≤ W'.heap.size
  block : ∀ k, k < W.heap.size → W'.heap[k]? = W.heap[k]?

theorem Goes.calm {φ ψ : Phi} {G G' : Nat → Option Blk} {n n' : Nat} {w w' : World} (h : Goes φ G n w ψ G' n' w') (hro : ∀ b blk, G b = some blk → blk.mine = false) : Calm w w' := by
  have hk : ∀ c, c < w.heap.size → w'.heap[c]? = w.heap[c]? := fun c hc => h.keep c hc fun b blk L hb hm _ => by rw [hro b blk hb] at hm; cases hm
  refine ⟨⟨h.os, h.output, fun i hi => ?_⟩, fun a ha => ?_, h.size, hk⟩
  · rw [hk i hi]
    cases hx : w.heap[i]? with
    | none => rfl
    | some o =>
      cases o with
      | cells c t fr => exact ⟨rfl, rfl, rfl, fun _ _ => rfl⟩
      | map es clock => exact .inr ⟨rfl, rfl⟩
      | _ => rfl
  · unfold World.frozen?
    rw [hk a.block ha]

theorem calls_of {K : Tab} (hK : K.Ok) (hN : ∀ (f : Nat) fn, K.P.funcs[f]? = some fn → (fn.name == "runtime.NumGoroutine") = false) {lf d : Nat} {f : FuncId} {args : List AV} {H : AH} {k : AV → AH → Bool}
    (h : (den K true lf (fun n call ops => drawC K n call ops) d f).go args H k = true) {φ : Phi} {xs : List Value} {w : World} (hx : concs φ args = some xs) (hg : Glob K.ng φ) (hw : WR φ H.get w)
    (hfr : ∀ b, H.next ≤ b → φ b = none) (hro : ∀ b blk, H.get b = some blk → blk.mine = false) (hm : isMark args = false := by rfl) :
    Calls K.P f xs.toArray w fun e w' => ∃ v H' ψ x, e = .returned x ∧ k v H' = true ∧ conc ψ v = some x ∧ Goes φ H.get H.next w ψ H'.get H'.next w' ∧ Calm w w' := by
  obtain ⟨_, O, h1, h2, _⟩ := den_good hK hN (drawC_good hK) d f args H k h
  exact (Runs.calls hm).1 (h2.2.2 φ xs w hx hg hw (fun b hb _ => hfr b hb) _ fun v H' ψ x w' hO hgo hcx => ⟨v, H', ψ, x, rfl, h1 v H' hO, hcx, hgo, hgo.calm hro⟩)

def isTrue (v : AV) (_ : AH) : Bool := match v with
  | .bool b => b
  | _ => false

/-- A call over no memory that the run has ended with 'true'. -/
theorem true_of {K : Tab} (hK : K.Ok) (hng : K.ng = 0) (hN : ∀ (f : Nat) fn, K.P.funcs[f]? = some fn → (fn.name == "runtime.NumGoroutine") = false) {lf d : Nat} {f : FuncId} {args : List AV}
    (h : (den K true lf (fun n call ops => drawC K n call ops) d f).go args .empty isTrue = true) {xs : List Value} (hx : concs (fun _ => none) args = some xs) (w : World) (hm : isMark args = false := by rfl) :
    Calls K.P f xs.toArray w fun e w' => e = .returned (.bool true) ∧ Calm w w' := by
  have hE := AH.empty_get
  refine (calls_of hK hN h hx (fun g hgl => by omega) ⟨fun b blk L _ hL => (by cases hL), fun b b' blk blk' L L' _ _ hL _ _ => (by cases hL)⟩ (fun _ _ => rfl) (fun b blk hb => (by rw [hE] at hb; cases hb)) hm).mono fun e w' hh => ?_
  obtain ⟨v, H', ψ, x, rfl, hk, hcx, _, hc⟩ := hh
  refine ⟨?_, hc⟩
  match v, hk with
  | .bool b, hk =>
    have hb : b = true := hk
    subst hb
    simp only [conc] at hcx
    cases hcx
    rfl

end GoX
