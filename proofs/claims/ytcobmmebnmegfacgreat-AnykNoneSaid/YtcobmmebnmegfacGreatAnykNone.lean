/-
  PROVED: whatever AnykNone of the module is given, it answers true, and its arguments read behind the call as they read before.
-/
import Derived.Test.YtcobmmebnmegfacGreatRows
import Derived.WalkKit
import Derived.ProofKit
import Derived.OpenShut
import Derived.ChangeMaps5
import Derived.Deep.DeepHandedRow
import Derived.Lib.LaidTab
import Derived.Test.YtcobmmebnmegfacGreatXCodeG
import Derived.Test.YtcobmmebnmegfacGreatOpenI
import Derived.Test.YtcobmmebnmegfacGreatAnykNoneLaw
namespace Go.Proofs.YtcobmmebnmegfacGreat.anykNone
open Go Go.ChangeShapes Go.WideShapes Go.ChangeAt Go.RowKit
open Go.ChangeMaps (open_string)

theorem own : ownKnob Tryz.prog.godebug = none := by kernel_rfl

/-! ### The run -/
noncomputable def K := GoX.Tab.of Tryz.prog 0 [129, 111, 115]
theorem K_ok : K.Ok := GoX.Tab.of_ok Tryz.prog 0 [129, 111, 115] (by decide +kernel) (by decide +kernel)
theorem names : (Tryz.prog.funcs.toList.all fun fn => !(fn.name == "runtime.NumGoroutine")) = true := by decide +kernel
theorem K_named : ∀ (f : Nat) fn, K.P.funcs[f]? = some fn → (fn.name == "runtime.NumGoroutine") = false := fun f fn h => by
  have h2 := List.all_eq_true.1 names fn (by
    have : Tryz.prog.funcs[f]? = some fn := by rw [← GoX.Tab.of_P Tryz.prog 0 [129, 111, 115]]; exact h
    exact List.mem_of_getElem? (by rw [Array.getElem?_toList]; exact this))
  simpa using h2
noncomputable def tabL : List GoX.TabL := []
theorem lives_run : (GoX.denJ K [] 100000 (fun n call ops => GoX.drawC K n call ops) 100 13).go [] ⟨0, GoX.tabsT tabL⟩ GoX.isTrue = true := by decide +kernel
theorem lives_c (w : World) (hl : ∀ x ∈ tabL, x.g < 0 ∧ x.lies w) : Calls Tryz.prog 13 #[] w fun e w' => e = .returned (.bool true) ∧ GoX.Calm w w' := by
  have h := GoX.true_ofT K_ok (GoX.Tab.of_ng Tryz.prog 0 [129, 111, 115]) K_named lives_run (xs := []) (by simp [GoX.concs]) w hl
  rwa [show K.P = Tryz.prog from GoX.Tab.of_P Tryz.prog 0 [129, 111, 115]] at h

theorem nextN_run : (GoX.denJ K [] 100000 (fun n call ops => GoX.drawC K n call ops) 100 4).go [.ptr none] ⟨0, GoX.tabsT tabL⟩ (fun v _ => GoX.smV 64 v (.tup [.agg [.sl none 0 (.exact 0), .int .i64 0, .int .u64 0], .bool false])) = true := by decide +kernel
theorem nextN_c (w : World) (hl : ∀ x ∈ tabL, x.g < 0 ∧ x.lies w) : Calls Tryz.prog 4 #[.pointer none] w fun e w' => e = .returned (.tuple #[.agg #[.slice none 0 0, .int .i64 0, .int .u64 0], .bool false]) ∧ GoX.Calm w w' := by
  have h := GoX.val_ofT K_ok (GoX.Tab.of_ng Tryz.prog 0 _) K_named (v0 := .tup [.agg [.sl none 0 (.exact 0), .int .i64 0, .int .u64 0], .bool false]) (x0 := .tuple #[.agg #[.slice none 0 0, .int .i64 0, .int .u64 0], .bool false]) (fun _ => by simp [GoX.conc, GoX.concs, GoX.concSl, GoX.concP]) (nextN_run) (xs := [.pointer none]) (by simp [GoX.concs, GoX.conc, GoX.concP, GoX.concSl]) w hl
  rwa [show K.P = Tryz.prog from GoX.Tab.of_P Tryz.prog 0 _] at h
theorem newN_run : (GoX.denJ K [] 100000 (fun n call ops => GoX.drawC K n call ops) 100 5).go [.ptr none] ⟨0, GoX.tabsT tabL⟩ (fun v H => cond (GoX.isMark [v]) false (cond (Nat.ble 0 H.next) ((GoX.denJ K [] 100000 (fun n call ops => GoX.drawC K n call ops) 100 4).go [v] H fun u _ => GoX.smV 64 u (.tup [.agg [.sl none 0 (.exact 0), .int .i64 0, .int .u64 0], .bool false])) false)) = true := by decide +kernel
theorem newN_c (w : World) (hl : ∀ x ∈ tabL, x.g < 0 ∧ x.lies w) : Calls Tryz.prog 5 #[.pointer none] w fun e w1 => ∃ z, e = .returned z ∧ GoX.Calm w w1 ∧ Calls Tryz.prog 4 #[z] w1 fun e w' => e = .returned (.tuple #[.agg #[.slice none 0 0, .int .i64 0, .int .u64 0], .bool false]) ∧ GoX.Calm w w' := by
  have h := GoX.chain_ofT K_ok (GoX.Tab.of_ng Tryz.prog 0 _) K_named (v0 := .tup [.agg [.sl none 0 (.exact 0), .int .i64 0, .int .u64 0], .bool false]) (x0 := .tuple #[.agg #[.slice none 0 0, .int .i64 0, .int .u64 0], .bool false]) (fun _ => by simp [GoX.conc, GoX.concs, GoX.concSl, GoX.concP]) (newN_run) (xs := [.pointer none]) (by simp [GoX.concs, GoX.conc, GoX.concP, GoX.concSl]) w hl
  rwa [show K.P = Tryz.prog from GoX.Tab.of_P Tryz.prog 0 _] at h
theorem fromN_run (x : Value) : (GoX.denJ K [] 100000 (fun n call ops => GoX.drawC K n call ops) 100 6).go [.ptr none, .opq x] ⟨0, GoX.tabsT tabL⟩ (fun v _ => GoX.smV 64 v (.tup [.ptr none, .int .i64 12])) = true := by kernel_rfl
theorem fromN_c (x : Value) (hx : x.oneCell' = true) (w : World) (hl : ∀ x ∈ tabL, x.g < 0 ∧ x.lies w) : Calls Tryz.prog 6 #[.pointer none, x] w fun e w' => e = .returned (.tuple #[.pointer none, .int .i64 12]) ∧ GoX.Calm w w' := by
  have h := GoX.val_ofT K_ok (GoX.Tab.of_ng Tryz.prog 0 _) K_named (v0 := .tup [.ptr none, .int .i64 12]) (x0 := .tuple #[.pointer none, .int .i64 12]) (fun _ => by simp [GoX.conc, GoX.concs, GoX.concSl, GoX.concP]) (fromN_run x) (xs := [.pointer none, x]) (by simp [GoX.concs, GoX.conc, GoX.concP, GoX.concSl, hx]) w hl
  rwa [show K.P = Tryz.prog from GoX.Tab.of_P Tryz.prog 0 _] at h
theorem lenN_run : (GoX.denJ K [] 100000 (fun n call ops => GoX.drawC K n call ops) 100 8).go [.ptr none] ⟨0, GoX.tabsT tabL⟩ (fun v _ => GoX.smV 64 v (.int .i64 0)) = true := by decide +kernel
theorem lenN_c (w : World) (hl : ∀ x ∈ tabL, x.g < 0 ∧ x.lies w) : Calls Tryz.prog 8 #[.pointer none] w fun e w' => e = .returned (.int .i64 0) ∧ GoX.Calm w w' := by
  have h := GoX.val_ofT K_ok (GoX.Tab.of_ng Tryz.prog 0 _) K_named (v0 := .int .i64 0) (x0 := .int .i64 0) (fun _ => by simp [GoX.conc, GoX.concs, GoX.concSl, GoX.concP]) (lenN_run) (xs := [.pointer none]) (by simp [GoX.concs, GoX.conc, GoX.concP, GoX.concSl]) w hl
  rwa [show K.P = Tryz.prog from GoX.Tab.of_P Tryz.prog 0 _] at h
theorem itemsN_run : (GoX.denJ K [] 100000 (fun n call ops => GoX.drawC K n call ops) 100 9).go [.ptr none] ⟨0, GoX.tabsT tabL⟩ (fun v _ => GoX.smV 64 v (.sl none 0 (.exact 0))) = true := by decide +kernel
theorem itemsN_c (w : World) (hl : ∀ x ∈ tabL, x.g < 0 ∧ x.lies w) : Calls Tryz.prog 9 #[.pointer none] w fun e w' => e = .returned (.slice none 0 0) ∧ GoX.Calm w w' := by
  have h := GoX.val_ofT K_ok (GoX.Tab.of_ng Tryz.prog 0 _) K_named (v0 := .sl none 0 (.exact 0)) (x0 := .slice none 0 0) (fun _ => by simp [GoX.conc, GoX.concs, GoX.concSl, GoX.concP]) (itemsN_run) (xs := [.pointer none]) (by simp [GoX.concs, GoX.conc, GoX.concP, GoX.concSl]) w hl
  rwa [show K.P = Tryz.prog from GoX.Tab.of_P Tryz.prog 0 _] at h
theorem allN_run : (GoX.denJ K [] 100000 (fun n call ops => GoX.drawC K n call ops) 100 12).go [.ptr none, .int .i64 5] ⟨0, GoX.tabsT tabL⟩ (fun v _ => GoX.smV 64 v (.sl none 0 (.exact 0))) = true := by decide +kernel
theorem allN_c (w : World) (hl : ∀ x ∈ tabL, x.g < 0 ∧ x.lies w) : Calls Tryz.prog 12 #[.pointer none, .int .i64 5] w fun e w' => e = .returned (.slice none 0 0) ∧ GoX.Calm w w' := by
  have h := GoX.val_ofT K_ok (GoX.Tab.of_ng Tryz.prog 0 _) K_named (v0 := .sl none 0 (.exact 0)) (x0 := .slice none 0 0) (fun _ => by simp [GoX.conc, GoX.concs, GoX.concSl, GoX.concP]) (allN_run) (xs := [.pointer none, .int .i64 5]) (by simp [GoX.concs, GoX.conc, GoX.concP, GoX.concSl]) w hl
  rwa [show K.P = Tryz.prog from GoX.Tab.of_P Tryz.prog 0 _] at h
theorem nones : Nones :=
  ⟨fun w => nextN_c w (fun x hx => by cases hx), fun w => newN_c w (fun x hx => by cases hx), fun x hx w => fromN_c x hx w (fun x hx => by cases hx), fun w => lenN_c w (fun x hx => by cases hx), fun w => itemsN_c w (fun x hx => by cases hx), fun w => allN_c w (fun x hx => by cases hx), fun w => lives_c w (fun x hx => by cases hx)⟩
theorem walk (y : It) (nv : Value) (wf : y.wf) (w : World) (_hl : ∀ x ∈ tabL, x.g < 0 ∧ x.lies w) (hv : Holds w nv (y.l.map (Value.int .i64))) :
    Calls Tryz.prog 3 #[.agg #[.int .i64 y.c, nv, .int .i64 y.p, .int .i64 y.r]] w fun e w' => e = .returned (.bool true) ∧ GoX.Calm w w' :=
  law_c y nv w hv (by have := wf.2.1; unfold maxLen at this; omega) nones

set_option maxRecDepth 100000 in
theorem contract (H : Type) (enc : TypeId × Value → H) (W : World) (base : Nat) (args : Array Value) (ds gs : List (DataW H)) (before : List MemPlace)
    (hval : ∀ (j : Nat) t v, Tryz.f3.params[j]? = some t → args[j]? = some v → Value.okWide Tryz.prog W .any base t v)
    (hW : DataW.Whole enc Tryz.prog Tryz.f3.params.toList Rows.anykNoneSpec.vars false W args.toList ds gs before) (hl : ∀ x ∈ tabL, x.g < 0 ∧ x.lies W) :
    Calls Tryz.prog 3 args W fun e W' => ∃ v, e = .returned v ∧ Rows.anykNoneSpec.post enc Tryz.prog Tryz.f3 false true false false W args v W' := by
  have hW' := hW
  obtain ⟨p, q, hA0, hV, rfl, hfz, hnd⟩ := hW
  have hA : DataW.TrodAll enc Tryz.prog W 0 (fun _ => true) true Tryz.f3.params.toList args.toList ds p := hA0
  rw [Tryz.params3] at hA hval
  obtain ⟨v0, vs0, d0, ds0, p0, q0, hargs, rfl, rfl, h0, r0⟩ := trodAll_cons hA
  obtain ⟨rfl, rfl, rfl⟩ := trodAll_nil r0
  obtain rfl : args = #[v0] := by cases args; simp_all
  obtain ⟨rfl, rfl⟩ := trodVars_none hV
  obtain ⟨y0, nv0, rfl, hh0, wf0⟩ := open_item Tryz.underlying24 (by kernel_rfl) Tryz.underlying22 Tryz.underlying3 (by kernel_rfl) (by kernel_rfl) (by kernel_rfl) (by kernel_rfl) (by kernel_rfl) (by kernel_rfl) (by kernel_rfl) (by kernel_rfl) (by kernel_rfl) (by kernel_rfl) (by kernel_rfl) (by kernel_rfl) (by kernel_rfl) (fun _ => rfl) (hval 0 24 v0 rfl rfl) h0
  refine (walk y0 nv0 wf0 W hl hh0).mono fun e W' ⟨he, hg⟩ => ?_
  subst he
  exact ⟨_, rfl, GoX.post_of_calm (tb := 4) (by kernel_rfl) (by decide +kernel) Tryz.underlying4 (by kernel_rfl) rfl rfl hW' hg⟩

noncomputable def laidWorld (os : Os) : World := World.holding Tryz.prog os ⟨#[], #[], []⟩
theorem laid_met (os : Os) : laidMet Tryz.prog Rows.anykNoneRow.laid ((laidWorld os).forCall (fun _ _ => 0) ⟨#[], #[.agg #[.int .i64 0, .slice none 0 0, .int .i64 0, .int .i64 0]], []⟩).memory :=
  laidMet_of_run' 8 (by kernel_rfl) (by kernel_rfl)
theorem reads (os : Os) {H : Type} (enc : TypeId × Value → H) : ∃ places, DataW.whole enc Tryz.prog ((laidWorld os).forCall (fun _ _ => 0) ⟨#[], #[.agg #[.int .i64 0, .slice none 0 0, .int .i64 0, .int .i64 0]], []⟩).memory Tryz.f3.params.toList Rows.anykNoneSpec.vars false (#[.agg #[.int .i64 0, .slice none 0 0, .int .i64 0, .int .i64 0]] : Array Value).toList 8 = some ([.agg [.lit (.int .i64 0), .nil, .lit (.int .i64 0), .lit (.int .i64 0)]], [], places) :=
  ⟨[], by kernel_rfl⟩

set_option maxRecDepth 100000 in
theorem lifted (os : Os) (started : os.Started) (H : Type) (enc : TypeId × Value → H) (F : Stop.Interp) :
    ReturnsInHanded {} Tryz.checked os 3 .any ((OpenSpec.ofChange Rows.anykNoneSpec).preRow enc Tryz.prog Tryz.f3 Rows.anykNoneRow.domain false Rows.anykNoneRow.laid) (((OpenSpec.ofChange Rows.anykNoneSpec).at F).post enc Tryz.prog Tryz.f3 false true false false) := by
  obtain ⟨places, hx⟩ := reads os enc
  refine returnsInHanded_of_row (C := Tryz.checked) (s := OpenSpec.ofChange Rows.anykNoneSpec) own started (by kernel_rfl) Tryz.func3
    (witness_row_at (enc := enc) (C := Tryz.checked) false (laidWorld os) #[.agg #[.int .i64 0, .slice none 0 0, .int .i64 0, .int .i64 0]] rfl (by kernel_rfl) (by kernel_rfl) (by kernel_rfl)
      (OpenSpec.preRow_of_cond 8 hx (by kernel_rfl) (fun k hk => by cases hk) (by kernel_rfl) (laid_met os))) ?_
  intro W base args ds gs before hval hW _ _ _ _ _ _
  exact contract H enc W base args ds gs before hval hW (fun x hx => by cases hx)

/-- Whatever it is given, it answers true and leaves its arguments as they were. -/
theorem said : Rows.AnykNoneSaid :=
  OpenClaim.holds_of_cond 3 Tryz.f3 rfl rfl rfl rfl rfl rfl rfl ⟨rfl, rfl, rfl, rfl, rfl⟩ rfl rfl rfl rfl rfl (by kernel_rfl) Tryz.func3 (by kernel_rfl)
    (of_decide_eq_true (by kernel_rfl)) (by unfold Func.isWrapper; first | (rw [if_pos (by decide +kernel)]; kernel_rfl) | (rw [if_neg (by decide +kernel)]; exact ⟨rfl, rfl⟩))
    (fun os started H enc _ F => by rw [OpenClaim.pre_eq_preRow]; exact lifted os started H enc F)

end Go.Proofs.YtcobmmebnmegfacGreat.anykNone
