/-
  PROVED: whatever MarkNone of the module is given, it answers true, and its arguments read behind the call as they read before.
-/
import Derived.Test.YtnecfgmbfkocnaeGreatRows
import Derived.WalkKit
import Derived.ProofKit
import Derived.OpenShut
import Derived.ChangeMaps5
import Derived.Deep.DeepHandedRow
import Derived.Lib.LaidTab
import Derived.Test.YtnecfgmbfkocnaeGreatXCodeG
import Derived.Test.YtnecfgmbfkocnaeGreatMNLaw
import Derived.Test.YtnecfgmbfkocnaeGreatOpenMk
import Derived.Test.YtnecfgmbfkocnaeGreatValP
namespace Go.Proofs.YtnecfgmbfkocnaeGreat.markNone
open Go Go.ChangeShapes Go.WideShapes Go.ChangeAt Go.RowKit
open Go.ChangeMaps (open_string)

theorem own : ownKnob Tryz.prog.godebug = none := by kernel_rfl

/-! ### The run -/
noncomputable def K := GoX.Tab.of Tryz.prog 0 [142, 125, 149]
theorem K_ok : K.Ok := GoX.Tab.of_ok Tryz.prog 0 [142, 125, 149] (by decide +kernel) (by decide +kernel)
theorem names : (Tryz.prog.funcs.toList.all fun fn => !(fn.name == "runtime.NumGoroutine")) = true := by decide +kernel
set_option maxRecDepth 100000 in
theorem K_named : ∀ (f : Nat) fn, K.P.funcs[f]? = some fn → (fn.name == "runtime.NumGoroutine") = false := fun f fn h => by
  have h2 := List.all_eq_true.1 names fn (by
    have : Tryz.prog.funcs[f]? = some fn := by rw [← show K.P = Tryz.prog from GoX.Tab.of_P Tryz.prog 0 [142, 125, 149]]; exact h
    exact List.mem_of_getElem? (by rw [Array.getElem?_toList]; exact this))
  simpa using h2
noncomputable def tabL : List GoX.TabL := []
set_option maxRecDepth 100000 in
theorem lives_run : (GoX.denJ K [] 100000 (fun n call ops => GoX.drawC K n call ops) 100 13).go [] ⟨0, GoX.tabsT tabL⟩ GoX.isTrue = true := by decide +kernel
theorem lives_c (w : World) (hl : ∀ x ∈ tabL, x.g < 0 ∧ x.lies w) : Calls Tryz.prog 13 #[] w fun e w' => e = .returned (.bool true) ∧ GoX.Calm w w' := by
  have h := GoX.true_ofT K_ok (GoX.Tab.of_ng Tryz.prog 0 [142, 125, 149]) K_named lives_run (xs := []) (by simp [GoX.concs]) w hl
  rwa [show K.P = Tryz.prog from GoX.Tab.of_P Tryz.prog 0 [142, 125, 149]] at h

theorem sameN_run : (GoX.denJ K [] 100000 (fun n call ops => GoX.drawC K n call ops) 100 10).go [.agg [.int .i64 0, .bool false, .sl none 0 (.exact 0), .int .u64 0, .sl none 0 (.exact 0)], .agg [.int .i64 0, .bool false, .sl none 0 (.exact 0), .int .u64 0, .sl none 0 (.exact 0)]] ⟨0, GoX.tabsT tabL⟩ (fun v _ => GoX.smV 64 v (.bool true)) = true := by decide +kernel
theorem sameN_c (w : World) (hl : ∀ x ∈ tabL, x.g < 0 ∧ x.lies w) : Calls Tryz.prog 10 #[.agg #[.int .i64 0, .bool false, .slice none 0 0, .int .u64 0, .slice none 0 0], .agg #[.int .i64 0, .bool false, .slice none 0 0, .int .u64 0, .slice none 0 0]] w fun e w' => e = .returned (.bool true) ∧ GoX.Calm w w' := by
  have h := GoX.val_ofT K_ok (GoX.Tab.of_ng Tryz.prog 0 _) K_named (v0 := .bool true) (x0 := .bool true) (fun _ => by simp [GoX.conc]) (sameN_run) (xs := [.agg #[.int .i64 0, .bool false, .slice none 0 0, .int .u64 0, .slice none 0 0], .agg #[.int .i64 0, .bool false, .slice none 0 0, .int .u64 0, .slice none 0 0]]) (by simp [GoX.concs, GoX.conc, GoX.concP, GoX.concSl]) w hl
  rwa [show K.P = Tryz.prog from GoX.Tab.of_P Tryz.prog 0 _] at h
theorem start_run : (GoX.denJ K [] 100000 (fun n call ops => GoX.drawC K n call ops) 100 12).go [.ptr none] ⟨0, GoX.tabsT tabL⟩ (fun v _ => isOver v) = true := by decide +kernel
theorem start_c (w : World) (hl : ∀ x ∈ tabL, x.g < 0 ∧ x.lies w) : Calls Tryz.prog 12 #[.pointer none] w fun e w' => (∃ a b c d, e = .returned (.agg #[a, .bool true, b, c, d])) ∧ GoX.Calm w w' := by
  have h := val_ofP K_ok (GoX.Tab.of_ng Tryz.prog 0 _) K_named start_run (xs := [.pointer none]) (by simp [GoX.concs, GoX.conc, GoX.concP]) w hl
  rw [show K.P = Tryz.prog from GoX.Tab.of_P Tryz.prog 0 _] at h
  refine h.mono fun e w' ⟨⟨v, ψ, x, he, hk, hx⟩, hc⟩ => ?_
  obtain ⟨a, b, c, d, rfl⟩ := isOver_ok hk hx
  exact ⟨⟨a, b, c, d, he⟩, hc⟩
theorem walk (m : Mk) (nv iv : Value) (wf : m.wf) (s : ByteArray) (_ws : s.size ≤ maxLen) (w : World) (_hl : ∀ x ∈ tabL, x.g < 0 ∧ x.lies w) (hn : Holds w nv (m.nodes.map (Value.int .i64))) (hi : HoldsIL w iv m.items) :
    Calls Tryz.prog 3 #[mkV m nv iv, .string s] w fun e w' => e = .returned (.bool true) ∧ GoX.Calm w w' := by
  obtain ⟨_, h2, _, _, h5, h6⟩ := wf
  unfold maxLen at h2 h5
  refine law_c ⟨fun w => start_c w (fun y hy => by cases hy), fun w => sameN_c w (fun y hy => by cases hy), fun w => lives_c w fun y hy => by cases hy⟩ m nv iv s w hn hi (by omega) (by omega) (fun y hy => ?_)
  have := (h6 y hy).2.1
  unfold maxLen at this
  omega

set_option maxRecDepth 100000 in
theorem contract (H : Type) (enc : TypeId × Value → H) (W : World) (base : Nat) (args : Array Value) (ds gs : List (DataW H)) (before : List MemPlace)
    (hval : ∀ (j : Nat) t v, Tryz.f3.params[j]? = some t → args[j]? = some v → Value.okWide Tryz.prog W .any base t v)
    (hW : DataW.Whole enc Tryz.prog Tryz.f3.params.toList Rows.markNoneSpec.vars false W args.toList ds gs before) (hl : ∀ x ∈ tabL, x.g < 0 ∧ x.lies W) :
    Calls Tryz.prog 3 args W fun e W' => ∃ v, e = .returned v ∧ Rows.markNoneSpec.post enc Tryz.prog Tryz.f3 false true false false W args v W' := by
  have hW' := hW
  obtain ⟨p, q, hA0, hV, rfl, hfz, hnd⟩ := hW
  have hA : DataW.TrodAll enc Tryz.prog W 0 (fun _ => true) true Tryz.f3.params.toList args.toList ds p := hA0
  rw [Tryz.params3] at hA hval
  obtain ⟨v0, vs0, d0, ds0, p0, q0, hargs, rfl, rfl, h0, r0⟩ := trodAll_cons hA
  obtain ⟨v1, vs1, d1, ds1, p1, q1, rfl, rfl, rfl, h1, r1⟩ := trodAll_cons r0
  obtain ⟨rfl, rfl, rfl⟩ := trodAll_nil r1
  obtain rfl : args = #[v0, v1] := by cases args; simp_all
  obtain ⟨rfl, rfl⟩ := trodVars_none hV
  obtain ⟨y0, nv0, iv0, rfl, hh0, hi0, wf0⟩ := open_mark Tryz.underlying26 (by kernel_rfl) (by kernel_rfl) Tryz.underlying22 Tryz.underlying3 (by kernel_rfl) (by kernel_rfl) Tryz.underlying24 Tryz.underlying39 (by kernel_rfl) Tryz.underlying22 (by kernel_rfl) (by kernel_rfl) (by kernel_rfl) (by kernel_rfl) (by kernel_rfl) (by kernel_rfl) (by kernel_rfl) (by kernel_rfl) (by kernel_rfl) (by kernel_rfl) (by kernel_rfl) (by kernel_rfl) (by kernel_rfl) (by kernel_rfl) (by kernel_rfl) (by kernel_rfl) (by kernel_rfl) (by kernel_rfl) (by kernel_rfl) (by kernel_rfl) (by kernel_rfl) (by kernel_rfl) (by kernel_rfl) (fun _ => rfl) (hval 0 26 v0 rfl rfl) h0
  obtain ⟨s1, rfl, _, _, w1⟩ := open_string Tryz.underlying9 (hval 1 9 v1 rfl rfl) h1
  refine (walk y0 nv0 iv0 wf0 s1 w1 W hl hh0 hi0).mono fun e W' ⟨he, hg⟩ => ?_
  subst he
  exact ⟨_, rfl, GoX.post_of_calm (tb := 4) (by kernel_rfl) (by decide +kernel) Tryz.underlying4 (by kernel_rfl) rfl rfl hW' hg⟩

noncomputable def laidWorld (os : Os) : World := World.holding Tryz.prog os ⟨#[], #[], []⟩
theorem laid_met (os : Os) : laidMet Tryz.prog Rows.markNoneRow.laid ((laidWorld os).forCall (fun _ _ => 0) ⟨#[], #[.agg #[.int .i64 0, .bool false, .slice none 0 0, .int .u64 0, .slice none 0 0], .string .empty], []⟩).memory :=
  laidMet_of_run' 8 (by kernel_rfl) (by kernel_rfl)
theorem reads (os : Os) {H : Type} (enc : TypeId × Value → H) : ∃ places, DataW.whole enc Tryz.prog ((laidWorld os).forCall (fun _ _ => 0) ⟨#[], #[.agg #[.int .i64 0, .bool false, .slice none 0 0, .int .u64 0, .slice none 0 0], .string .empty], []⟩).memory Tryz.f3.params.toList Rows.markNoneSpec.vars false (#[.agg #[.int .i64 0, .bool false, .slice none 0 0, .int .u64 0, .slice none 0 0], .string .empty] : Array Value).toList 8 = some ([.agg [.lit (.int .i64 0), .lit (.bool false), .nil, .lit (.int .u64 0), .nil], .lit (.string [])], [], places) :=
  ⟨[], by kernel_rfl⟩

set_option maxRecDepth 100000 in
theorem lifted (os : Os) (started : os.Started) (H : Type) (enc : TypeId × Value → H) (F : Stop.Interp) :
    ReturnsInHanded {} Tryz.checked os 3 .any ((OpenSpec.ofChange Rows.markNoneSpec).preRow enc Tryz.prog Tryz.f3 Rows.markNoneRow.domain false Rows.markNoneRow.laid) (((OpenSpec.ofChange Rows.markNoneSpec).at F).post enc Tryz.prog Tryz.f3 false true false false) := by
  obtain ⟨places, hx⟩ := reads os enc
  refine returnsInHanded_of_row (C := Tryz.checked) (s := OpenSpec.ofChange Rows.markNoneSpec) own started (by kernel_rfl) Tryz.func3
    (witness_row_at (enc := enc) (C := Tryz.checked) false (laidWorld os) #[.agg #[.int .i64 0, .bool false, .slice none 0 0, .int .u64 0, .slice none 0 0], .string .empty] rfl (by kernel_rfl) (by kernel_rfl) (by kernel_rfl)
      (OpenSpec.preRow_of_cond 8 hx (by kernel_rfl) (fun k hk => by cases hk) (by kernel_rfl) (laid_met os))) ?_
  intro W base args ds gs before hval hW _ _ _ _ _ _
  exact contract H enc W base args ds gs before hval hW (fun x hx => by cases hx)

/-- Whatever it is given, it answers true and leaves its arguments as they were. -/
theorem said : Rows.MarkNoneSaid :=
  OpenClaim.holds_of_cond 3 Tryz.f3 rfl rfl rfl rfl rfl rfl rfl ⟨rfl, rfl, rfl, rfl, rfl⟩ rfl rfl rfl rfl rfl (by kernel_rfl) Tryz.func3 (by kernel_rfl)
    (of_decide_eq_true (by kernel_rfl)) (by unfold Func.isWrapper; first | (rw [if_pos (by decide +kernel)]; kernel_rfl) | (rw [if_neg (by decide +kernel)]; exact ⟨rfl, rfl⟩))
    (fun os started H enc _ F => by rw [OpenClaim.pre_eq_preRow]; exact lifted os started H enc F)

end Go.Proofs.YtnecfgmbfkocnaeGreat.markNone
