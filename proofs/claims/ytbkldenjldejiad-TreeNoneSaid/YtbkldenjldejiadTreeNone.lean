/-
  PROVED: whatever TreeNone of the module is given, it answers true, and its arguments read behind the call as they read before.
-/
import Derived.Test.YtbkldenjldejiadRows
import Derived.WalkKit
import Derived.ProofKit
import Derived.OpenShut
import Derived.ChangeMaps5
import Derived.Deep.DeepHandedRow
import Derived.Lib.LaidTab
import Derived.Test.YtbkldenjldejiadXCodeG
namespace Go.Proofs.Ytbkldenjldejiad.treeNone
open Go Go.ChangeShapes Go.WideShapes Go.ChangeAt Go.RowKit
open Go.ChangeMaps (open_string)

theorem own : ownKnob Try.prog.godebug = none := by kernel_rfl

/-! ### The run -/
noncomputable def K := GoX.Tab.of Try.prog 0 [66]
theorem K_ok : K.Ok := GoX.Tab.of_ok Try.prog 0 [66] (by decide +kernel) (by decide +kernel)
theorem names : (Try.prog.funcs.toList.all fun fn => !(fn.name == "runtime.NumGoroutine")) = true := by decide +kernel
theorem K_named : ∀ (f : Nat) fn, K.P.funcs[f]? = some fn → (fn.name == "runtime.NumGoroutine") = false := fun f fn h => by
  have h2 := List.all_eq_true.1 names fn (by
    have : Try.prog.funcs[f]? = some fn := by rw [← GoX.Tab.of_P Try.prog 0 [66]]; exact h
    exact List.mem_of_getElem? (by rw [Array.getElem?_toList]; exact this))
  simpa using h2
noncomputable def tabL : List GoX.TabL := []
set_option maxRecDepth 100000 in
theorem run0 (n0_ : Nat) (x1 : Value) (x2 : Value) : (GoX.denJ K [] 100000 (fun n call ops => GoX.drawC K n call ops) 100 3).go [.int .i64 (.negSucc n0_), .opq x1, .opq x2] ⟨0, GoX.tabsT tabL⟩ GoX.isTrue = true := by kernel_rfl
set_option maxRecDepth 100000 in
theorem run1  (x1 : Value) (x2 : Value) : (GoX.denJ K [] 100000 (fun n call ops => GoX.drawC K n call ops) 100 3).go [.int .i64 0, .opq x1, .opq x2] ⟨0, GoX.tabsT tabL⟩ GoX.isTrue = true := by kernel_rfl
set_option maxRecDepth 100000 in
theorem run2 (n0_ : Nat) (x1 : Value) (x2 : Value) : (GoX.denJ K [] 100000 (fun n call ops => GoX.drawC K n call ops) 100 3).go [.int .i64 (.ofNat (.succ n0_)), .opq x1, .opq x2] ⟨0, GoX.tabsT tabL⟩ GoX.isTrue = true := by kernel_rfl
theorem run (n0_ : Int) (x1 : Value) (x2 : Value) : (GoX.denJ K [] 100000 (fun n call ops => GoX.drawC K n call ops) 100 3).go [.int .i64 n0_, .opq x1, .opq x2] ⟨0, GoX.tabsT tabL⟩ GoX.isTrue = true :=
  match n0_ with
  | .negSucc m0 => run0 m0 x1 x2
  | .ofNat 0 => run1 x1 x2
  | .ofNat (m0 + 1) => run2 m0 x1 x2
theorem walk (n0_ : Int) (v1 : Value) (h1 : v1.oneCell' = true) (v2 : Value) (h2 : v2.oneCell' = true) (w : World) (hl : ∀ x ∈ tabL, x.g < 0 ∧ x.lies w) : Calls Try.prog 3 #[.int .i64 n0_, v1, v2] w fun e w' => e = .returned (.bool true) ∧ GoX.Calm w w' := by
  have h := GoX.true_ofT K_ok (GoX.Tab.of_ng Try.prog 0 [66]) K_named (run n0_ v1 v2) (xs := [.int .i64 n0_, v1, v2]) (by simp [GoX.concs, GoX.conc, h1, h2]) w hl
  rwa [show K.P = Try.prog from GoX.Tab.of_P Try.prog 0 [66]] at h

set_option maxRecDepth 100000 in
theorem contract (H : Type) (enc : TypeId × Value → H) (W : World) (base : Nat) (args : Array Value) (ds gs : List (DataW H)) (before : List MemPlace)
    (hval : ∀ (j : Nat) t v, Try.f3.params[j]? = some t → args[j]? = some v → Value.okWide Try.prog W .any base t v)
    (hW : DataW.Whole enc Try.prog Try.f3.params.toList Rows.treeNoneSpec.vars false W args.toList ds gs before) (hl : ∀ x ∈ tabL, x.g < 0 ∧ x.lies W) :
    Calls Try.prog 3 args W fun e W' => ∃ v, e = .returned v ∧ Rows.treeNoneSpec.post enc Try.prog Try.f3 false true false false W args v W' := by
  have hW' := hW
  obtain ⟨p, q, hA0, hV, rfl, hfz, hnd⟩ := hW
  have hA : DataW.TrodAll enc Try.prog W 0 (fun _ => true) true Try.f3.params.toList args.toList ds p := hA0
  rw [Try.params3] at hA hval
  obtain ⟨v0, vs0, d0, ds0, p0, q0, hargs, rfl, rfl, h0, r0⟩ := trodAll_cons hA
  obtain ⟨v1, vs1, d1, ds1, p1, q1, rfl, rfl, rfl, h1, r1⟩ := trodAll_cons r0
  obtain ⟨v2, vs2, d2, ds2, p2, q2, rfl, rfl, rfl, h2, r2⟩ := trodAll_cons r1
  obtain ⟨rfl, rfl, rfl⟩ := trodAll_nil r2
  obtain rfl : args = #[v0, v1, v2] := by cases args; simp_all
  obtain ⟨rfl, rfl⟩ := trodVars_none hV
  have o0 := hval 0 3 v0 rfl rfl
  obtain ⟨n0_, rfl⟩ := GoX.arg_int (P := Try.prog) Try.underlying3 o0
  have c1 := GoX.arg_cell (by kernel_rfl) (hval 1 3 v1 rfl rfl)
  have c2 := GoX.arg_cell (by kernel_rfl) (hval 2 3 v2 rfl rfl)
  refine (walk n0_ v1 c1 v2 c2 W hl).mono fun e W' ⟨he, hg⟩ => ?_
  subst he
  exact ⟨_, rfl, GoX.post_of_calm (tb := 4) (by kernel_rfl) (by decide +kernel) Try.underlying4 (by kernel_rfl) rfl rfl hW' hg⟩

noncomputable def laidWorld (os : Os) : World := World.holding Try.prog os ⟨#[], #[], []⟩
theorem laid_met (os : Os) : laidMet Try.prog Rows.treeNoneRow.laid ((laidWorld os).forCall (fun _ _ => 0) ⟨#[], #[.int .i64 0, .int .i64 0, .int .i64 0], []⟩).memory :=
  laidMet_of_run' 8 (by kernel_rfl) (by kernel_rfl)
theorem reads (os : Os) {H : Type} (enc : TypeId × Value → H) : ∃ places, DataW.whole enc Try.prog ((laidWorld os).forCall (fun _ _ => 0) ⟨#[], #[.int .i64 0, .int .i64 0, .int .i64 0], []⟩).memory Try.f3.params.toList Rows.treeNoneSpec.vars false (#[.int .i64 0, .int .i64 0, .int .i64 0] : Array Value).toList 8 = some ([.lit (.int .i64 0), .lit (.int .i64 0), .lit (.int .i64 0)], [], places) :=
  ⟨[], by kernel_rfl⟩

set_option maxRecDepth 100000 in
theorem lifted (os : Os) (started : os.Started) (H : Type) (enc : TypeId × Value → H) (F : Stop.Interp) :
    ReturnsInHanded {} Try.checked os 3 .any ((OpenSpec.ofChange Rows.treeNoneSpec).preRow enc Try.prog Try.f3 Rows.treeNoneRow.domain false Rows.treeNoneRow.laid) (((OpenSpec.ofChange Rows.treeNoneSpec).at F).post enc Try.prog Try.f3 false true false false) := by
  obtain ⟨places, hx⟩ := reads os enc
  refine returnsInHanded_of_row (C := Try.checked) (s := OpenSpec.ofChange Rows.treeNoneSpec) own started (by kernel_rfl) Try.func3
    (witness_row_at (enc := enc) (C := Try.checked) false (laidWorld os) #[.int .i64 0, .int .i64 0, .int .i64 0] rfl (by kernel_rfl) (by kernel_rfl) (by kernel_rfl)
      (OpenSpec.preRow_of_cond 8 hx (by kernel_rfl) (fun k hk => by cases hk) (by kernel_rfl) (laid_met os))) ?_
  intro W base args ds gs before hval hW _ _ _ _ _ _
  exact contract H enc W base args ds gs before hval hW (fun x hx => by cases hx)

/-- Whatever it is given, it answers true and leaves its arguments as they were. -/
theorem said : Rows.TreeNoneSaid :=
  OpenClaim.holds_of_cond 3 Try.f3 rfl rfl rfl rfl rfl rfl rfl ⟨rfl, rfl, rfl, rfl, rfl⟩ rfl rfl rfl rfl rfl (by kernel_rfl) Try.func3 (by kernel_rfl)
    (of_decide_eq_true (by kernel_rfl)) (by unfold Func.isWrapper; first | (rw [if_pos (by decide +kernel)]; kernel_rfl) | (rw [if_neg (by decide +kernel)]; exact ⟨rfl, rfl⟩))
    (fun os started H enc _ F => by rw [OpenClaim.pre_eq_preRow]; exact lifted os started H enc F)

end Go.Proofs.Ytbkldenjldejiad.treeNone
