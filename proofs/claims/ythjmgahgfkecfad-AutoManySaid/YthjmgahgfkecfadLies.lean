/-
  A CALL OVER SOME BLOCKS THAT LIE SOMEWHERE, by a run of the executor. No function is named here.
-/
import Derived.Test.YthjmgahgfkecfadXCodeG
namespace GoX
open Go

/-- A block: its cells, its elements' type, where it lies. -/
structure Lie where
  cs : List AV
  e : TypeId
  b : Nat
def lieT : Nat → List Lie → Trie Blk
  | _, [] => .leaf
  | i, x :: l => (lieT (i + 1) l).set i (some (.cells x.cs x.e 1))
def lieP (l : List Lie) : Phi := fun k => (l[k]?).map fun x => ⟨x.b, 0, 0⟩
theorem lieT_get : ∀ (l : List Lie) (i c : Nat) (blk : Blk), (lieT i l).get c = some blk → i ≤ c ∧ ∃ x, l[c - i]? = some x ∧ blk = .cells x.cs x.e 1
  | [], _, _, _, h => by unfold lieT at h; rw [Trie.get_leaf] at h; cases h
  | x :: l, i, c, blk, h => by
    unfold lieT at h
    rw [Trie.get_set] at h
    split at h
    · rename_i h0
      subst h0
      exact ⟨Nat.le_refl _, x, by simp, (Option.some.inj h).symm⟩
    · rename_i hne
      obtain ⟨h1, y, h2, h3⟩ := lieT_get l (i + 1) c blk h
      refine ⟨by omega, y, ?_, h3⟩
      rw [show c - i = (c - (i + 1)) + 1 by omega]
      simpa using h2
/-- Where the blocks lie, and what their cells stand for. -/
def lieIn (l : List Lie) (w : World) : Prop := ∀ x ∈ l, ∃ vs, concs (lieP l) x.cs = some vs ∧ w.heap[x.b]? = some (.cells vs.toArray x.e)
theorem val_ofL {K : Tab} (hK : K.Ok) (hng : K.ng = 0) (hN : ∀ (f : Nat) fn, K.P.funcs[f]? = some fn → (fn.name == "runtime.NumGoroutine") = false) {js : List Nat} {lf d : Nat} {f : FuncId} {args : List AV} {l : List Lie} {n : Nat} {T : Trie Blk}
    {v0 : AV} {x0 : Value} (hv0 : ∀ ψ, conc ψ v0 = some x0) (hn : n = l.length) (hT : T = lieT 0 l)
    (h : (denJ K js lf (fun n call ops => drawC K n call ops) d f).go args ⟨n, T⟩ (fun v _ => smV 64 v v0) = true) {xs : List Value}
    (hx : concs (lieP l) args = some xs) (w : World) (hw : lieIn l w) (hd : (l.map (·.b)).Nodup) (hm : isMark args = false := by rfl) :
    Calls K.P f xs.toArray w fun e w' => e = .returned x0 ∧ Calm w w' := by
  subst hn
  subst hT
  have hget : ∀ c blk, (AH.mk l.length (lieT 0 l)).get c = some blk → ∃ x, l[c]? = some x ∧ blk = .cells x.cs x.e 1 := fun c blk hb => by
    obtain ⟨_, x, h1, h2⟩ := lieT_get l 0 c blk hb
    exact ⟨x, by simpa using h1, h2⟩
  refine (calls_ofJ hK hN h hx (fun g hgl => by omega) ⟨fun c blk L hb hL => ?_, fun c c' blk blk' L L' hb hb' hL hL' he => ?_⟩ (fun c hb => ?_) (fun c blk hb => ?_) hm).mono fun e w' hh => ?_
  · obtain ⟨x, hx, rfl⟩ := hget c blk hb
    unfold lieP at hL
    rw [hx] at hL
    simp only [Option.map_some, Option.some.injEq] at hL
    subst hL
    obtain ⟨vs, hc, hl⟩ := hw x (List.mem_of_getElem? hx)
    exact ⟨_, hl, vs, hc, rfl, rfl⟩
  · obtain ⟨x, hx, rfl⟩ := hget c blk hb
    obtain ⟨y, hy, rfl⟩ := hget c' blk' hb'
    unfold lieP at hL hL'
    rw [hx] at hL
    rw [hy] at hL'
    simp only [Option.map_some, Option.some.injEq] at hL hL'
    subst hL
    subst hL'
    have h1 : (l.map (·.b))[c]? = some x.b := by simp [hx]
    have h2 : (l.map (·.b))[c']? = some x.b := by
      have e : x.b = y.b := he
      simp [hy, e]
    have l1 := (List.getElem?_eq_some_iff.1 h1).1
    have l2 := (List.getElem?_eq_some_iff.1 h2).1
    rw [List.getElem?_eq_getElem l1] at h1
    rw [List.getElem?_eq_getElem l2] at h2
    exact (List.getElem_inj hd).1 ((Option.some.inj h1).trans (Option.some.inj h2).symm)
  · have hb : l.length ≤ c := hb
    unfold lieP
    rw [List.getElem?_eq_none hb]; rfl
  · obtain ⟨x, hx, rfl⟩ := hget c blk hb
    rfl
  · obtain ⟨v, H', ψ, x, rfl, hk, hcx, _, hcc⟩ := hh
    have hvv := smV_ok _ _ _ hk
    rw [hvv, hv0] at hcx
    cases hcx
    exact ⟨rfl, hcc⟩
end GoX
