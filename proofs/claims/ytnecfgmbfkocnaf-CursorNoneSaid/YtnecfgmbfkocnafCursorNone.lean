/-
  PROVED: whatever CursorNone of the module is given, it answers true, and its arguments read behind the call as they read before.
-/
import Derived.Test.YtnecfgmbfkocnafRows
import Derived.WalkKit
import Derived.ProofKit
import Derived.OpenShut
import Derived.ChangeMaps5
import Derived.Deep.DeepHandedRow
import Derived.Lib.LaidTab
import Derived.Test.YtnecfgmbfkocnafXCodeG
import Derived.Test.YtnecfgmbfkocnafCurLaw
import Derived.Test.YtnecfgmbfkocnafOpenMk
namespace Go.Proofs.Ytnecfgmbfkocnaf.cursorNone
open Go Go.ChangeShapes Go.WideShapes Go.ChangeAt Go.RowKit
open Go.ChangeMaps (open_string)

theorem own : ownKnob Try.prog.godebug = none := by kernel_rfl

/-! ### The run -/
noncomputable def K := GoX.Tab.of Try.prog 0 [105]
theorem K_ok : K.Ok := GoX.Tab.of_ok Try.prog 0 [105] (by decide +kernel) (by decide +kernel)
theorem names : (Try.prog.funcs.toList.all fun fn => !(fn.name == "runtime.NumGoroutine")) = true := by decide +kernel
set_option maxRecDepth 100000 in
theorem K_named : ∀ (f : Nat) fn, K.P.funcs[f]? = some fn → (fn.name == "runtime.NumGoroutine") = false := fun f fn h => by
  have h2 := List.all_eq_true.1 names fn (by
    have : Try.prog.funcs[f]? = some fn := by rw [← show K.P = Try.prog from GoX.Tab.of_P Try.prog 0 [105]]; exact h
    exact List.mem_of_getElem? (by rw [Array.getElem?_toList]; exact this))
  simpa using h2
noncomputable def tabL : List GoX.TabL := []
set_option maxRecDepth 100000 in
theorem lives_run : (GoX.denJ K [] 100000 (fun n call ops => GoX.drawC K n call ops) 100 9).go [] ⟨0, GoX.tabsT tabL⟩ GoX.isTrue = true := by decide +kernel
theorem lives_c (w : World) (hl : ∀ x ∈ tabL, x.g < 0 ∧ x.lies w) : Calls Try.prog 9 #[] w fun e w' => e = .returned (.bool true) ∧ GoX.Calm w w' := by
  have h := GoX.true_ofT K_ok (GoX.Tab.of_ng Try.prog 0 [105]) K_named lives_run (xs := []) (by simp [GoX.concs]) w hl
  rwa [show K.P = Try.prog from GoX.Tab.of_P Try.prog 0 [105]] at h

theorem rowN_run (x : Value) : (GoX.denJ K [] 100000 (fun n call ops => GoX.drawC K n call ops) 100 15).go [.ptr none, .opq x] ⟨0, GoX.tabsT tabL⟩ (fun v _ => GoX.smV 64 v (.tup [.agg [.sl none 0 (.exact 0), .int .i64 0, .int .u64 0], .bool false])) = true := by kernel_rfl
theorem rowN_c (x : Value) (hx : x.oneCell' = true) (w : World) (hl : ∀ x ∈ tabL, x.g < 0 ∧ x.lies w) : Calls Try.prog 15 #[.pointer none, x] w fun e w' => e = .returned (.tuple #[.agg #[.slice none 0 0, .int .i64 0, .int .u64 0], .bool false]) ∧ GoX.Calm w w' := by
  have h := GoX.val_ofT K_ok (GoX.Tab.of_ng Try.prog 0 _) K_named (v0 := .tup [.agg [.sl none 0 (.exact 0), .int .i64 0, .int .u64 0], .bool false]) (x0 := .tuple #[.agg #[.slice none 0 0, .int .i64 0, .int .u64 0], .bool false]) (fun _ => by simp [GoX.conc, GoX.concs, GoX.concSl, GoX.concP]) (rowN_run x) (xs := [.pointer none, x]) (by simp [GoX.concs, GoX.conc, GoX.concP, hx]) w hl
  rwa [show K.P = Try.prog from GoX.Tab.of_P Try.prog 0 _] at h
theorem firstN_run : (GoX.denJ K [] 100000 (fun n call ops => GoX.drawC K n call ops) 100 20).go [.ptr none] ⟨0, GoX.tabsT tabL⟩ (fun v _ => GoX.smV 64 v (.tup [.agg [.sl none 0 (.exact 0), .int .i64 0, .int .u64 0], .bool false])) = true := by decide +kernel
theorem firstN_c (w : World) (hl : ∀ x ∈ tabL, x.g < 0 ∧ x.lies w) : Calls Try.prog 20 #[.pointer none] w fun e w' => e = .returned (.tuple #[.agg #[.slice none 0 0, .int .i64 0, .int .u64 0], .bool false]) ∧ GoX.Calm w w' := by
  have h := GoX.val_ofT K_ok (GoX.Tab.of_ng Try.prog 0 _) K_named (v0 := .tup [.agg [.sl none 0 (.exact 0), .int .i64 0, .int .u64 0], .bool false]) (x0 := .tuple #[.agg #[.slice none 0 0, .int .i64 0, .int .u64 0], .bool false]) (fun _ => by simp [GoX.conc, GoX.concs, GoX.concSl, GoX.concP]) (firstN_run) (xs := [.pointer none]) (by simp [GoX.concs, GoX.conc, GoX.concP]) w hl
  rwa [show K.P = Try.prog from GoX.Tab.of_P Try.prog 0 _] at h
theorem walk (m : Mk) (nv iv : Value) (wf : m.wf) (w : World) (_hl : ∀ x ∈ tabL, x.g < 0 ∧ x.lies w) (hn : Holds w nv (m.nodes.map (Value.int .i64))) (hi : HoldsIL w iv m.items) :
    Calls Try.prog 3 #[mkV m nv iv] w fun e w' => e = .returned (.bool true) ∧ GoX.Calm w w' := by
  obtain ⟨_, h2, _, h4, h5, h6⟩ := wf
  unfold maxLen at h2 h5
  refine law_c ⟨fun x hx w => rowN_c x hx w (fun y hy => by cases hy), fun w => firstN_c w (fun y hy => by cases hy)⟩ (fun x => lives_c x fun y hy => by cases hy) m nv iv w hn hi (by omega) (by omega) (fun y hy => ?_) ?_
  · have := (h6 y hy).2.1
    unfold maxLen at this
    omega
  · simp [Lit.wf, IntKind.min, IntKind.max, IntKind.signed, IntKind.bits] at h4
    omega

set_option maxRecDepth 100000 in
theorem contract (H : Type) (enc : TypeId × Value → H) (W : World) (base : Nat) (args : Array Value) (ds gs : List (DataW H)) (before : List MemPlace)
    (hval : ∀ (j : Nat) t v, Try.f3.params[j]? = some t → args[j]? = some v → Value.okWide Try.prog W .any base t v)
    (hW : DataW.Whole enc Try.prog Try.f3.params.toList Rows.cursorNoneSpec.vars false W args.toList ds gs before) (hl : ∀ x ∈ tabL, x.g < 0 ∧ x.lies W) :
    Calls Try.prog 3 args W fun e W' => ∃ v, e = .returned v ∧ Rows.cursorNoneSpec.post enc Try.prog Try.f3 false true false false W args v W' := by
  have hW' := hW
  obtain ⟨p, q, hA0, hV, rfl, hfz, hnd⟩ := hW
  have hA : DataW.TrodAll enc Try.prog W 0 (fun _ => true) true Try.f3.params.toList args.toList ds p := hA0
  rw [Try.params3] at hA hval
  obtain ⟨v0, vs0, d0, ds0, p0, q0, hargs, rfl, rfl, h0, r0⟩ := trodAll_cons hA
  obtain ⟨rfl, rfl, rfl⟩ := trodAll_nil r0
  obtain rfl : args = #[v0] := by cases args; simp_all
  obtain ⟨rfl, rfl⟩ := trodVars_none hV
  obtain ⟨y0, nv0, iv0, rfl, hh0, hi0, wf0⟩ := open_mark Try.underlying26 (by kernel_rfl) (by kernel_rfl) Try.underlying22 Try.underlying3 (by kernel_rfl) (by kernel_rfl) Try.underlying24 Try.underlying38 (by kernel_rfl) Try.underlying22 (by kernel_rfl) (by kernel_rfl) (by kernel_rfl) (by kernel_rfl) (by kernel_rfl) (by kernel_rfl) (by kernel_rfl) (by kernel_rfl) (by kernel_rfl) (by kernel_rfl) (by kernel_rfl) (by kernel_rfl) (by kernel_rfl) (by kernel_rfl) (by kernel_rfl) (by kernel_rfl) (by kernel_rfl) (by kernel_rfl) (by kernel_rfl) (by kernel_rfl) (by kernel_rfl) (by kernel_rfl) (by kernel_rfl) (fun _ => rfl) (hval 0 26 v0 rfl rfl) h0
  refine (walk y0 nv0 iv0 wf0 W hl hh0 hi0).mono fun e W' ⟨he, hg⟩ => ?_
  subst he
  exact ⟨_, rfl, GoX.post_of_calm (tb := 4) (by kernel_rfl) (by decide +kernel) Try.underlying4 (by kernel_rfl) rfl rfl hW' hg⟩

noncomputable def laidWorld (os : Os) : World := World.holding Try.prog os ⟨#[], #[], []⟩
theorem laid_met (os : Os) : laidMet Try.prog Rows.cursorNoneRow.laid ((laidWorld os).forCall (fun _ _ => 0) ⟨#[], #[.agg #[.int .i64 0, .bool false, .slice none 0 0, .int .u64 0, .slice none 0 0]], []⟩).memory :=
  laidMet_of_run' 8 (by kernel_rfl) (by kernel_rfl)
theorem reads (os : Os) {H : Type} (enc : TypeId × Value → H) : ∃ places, DataW.whole enc Try.prog ((laidWorld os).forCall (fun _ _ => 0) ⟨#[], #[.agg #[.int .i64 0, .bool false, .slice none 0 0, .int .u64 0, .slice none 0 0]], []⟩).memory Try.f3.params.toList Rows.cursorNoneSpec.vars false (#[.agg #[.int .i64 0, .bool false, .slice none 0 0, .int .u64 0, .slice none 0 0]] : Array Value).toList 8 = some ([.agg [.lit (.int .i64 0), .lit (.bool false), .nil, .lit (.int .u64 0), .nil]], [], places) :=
  ⟨[], by kernel_rfl⟩

set_option maxRecDepth 100000 in
theorem lifted (os : Os) (started : os.Started) (H : Type) (enc : TypeId × Value → H) (F : Stop.Interp) :
    ReturnsInHanded {} Try.checked os 3 .any ((OpenSpec.ofChange Rows.cursorNoneSpec).preRow enc Try.prog Try.f3 Rows.cursorNoneRow.domain false Rows.cursorNoneRow.laid) (((OpenSpec.ofChange Rows.cursorNoneSpec).at F).post enc Try.prog Try.f3 false true false false) := by
  obtain ⟨places, hx⟩ := reads os enc
  refine returnsInHanded_of_row (C := Try.checked) (s := OpenSpec.ofChange Rows.cursorNoneSpec) own started (by kernel_rfl) Try.func3
    (witness_row_at (enc := enc) (C := Try.checked) false (laidWorld os) #[.agg #[.int .i64 0, .bool false, .slice none 0 0, .int .u64 0, .slice none 0 0]] rfl (by kernel_rfl) (by kernel_rfl) (by kernel_rfl)
      (OpenSpec.preRow_of_cond 8 hx (by kernel_rfl) (fun k hk => by cases hk) (by kernel_rfl) (laid_met os))) ?_
  intro W base args ds gs before hval hW _ _ _ _ _ _
  exact contract H enc W base args ds gs before hval hW (fun x hx => by cases hx)

/-- Whatever it is given, it answers true and leaves its arguments as they were. -/
theorem said : Rows.CursorNoneSaid :=
  OpenClaim.holds_of_cond 3 Try.f3 rfl rfl rfl rfl rfl rfl rfl ⟨rfl, rfl, rfl, rfl, rfl⟩ rfl rfl rfl rfl rfl (by kernel_rfl) Try.func3 (by kernel_rfl)
    (of_decide_eq_true (by kernel_rfl)) (by unfold Func.isWrapper; first | (rw [if_pos (by decide +kernel)]; kernel_rfl) | (rw [if_neg (by decide +kernel)]; exact ⟨rfl, rfl⟩))
    (fun os started H enc _ F => by rw [OpenClaim.pre_eq_preRow]; exact lifted os started H enc F)

end Go.Proofs.Ytnecfgmbfkocnaf.cursorNone
