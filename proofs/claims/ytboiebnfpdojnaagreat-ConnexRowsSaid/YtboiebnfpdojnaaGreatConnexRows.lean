/-
  PROVED: whatever ConnexRows of the module is given, it answers true, and its arguments read behind the call as they read before.
-/
import Derived.Test.YtboiebnfpdojnaaGreatRows
import Derived.WalkKit
import Derived.ProofKit
import Derived.OpenShut
import Derived.ChangeMaps5
import Derived.Deep.DeepHandedRow
import Derived.Lib.LaidTab
import Derived.Test.YtboiebnfpdojnaaGreatXCodeG
namespace Go.Proofs.YtboiebnfpdojnaaGreat.connexRows
open Go Go.ChangeShapes Go.WideShapes Go.ChangeAt Go.RowKit
open Go.ChangeMaps (open_string)

theorem own : ownKnob Tryz.prog.godebug = none := by kernel_rfl

/-! ### The run -/
noncomputable def K := GoX.Tab.of Tryz.prog 0 [73]
theorem K_ok : K.Ok := GoX.Tab.of_ok Tryz.prog 0 [73] (by decide +kernel) (by decide +kernel)
theorem names : (Tryz.prog.funcs.toList.all fun fn => !(fn.name == "runtime.NumGoroutine")) = true := by decide +kernel
theorem K_named : ∀ (f : Nat) fn, K.P.funcs[f]? = some fn → (fn.name == "runtime.NumGoroutine") = false := fun f fn h => by
  have h2 := List.all_eq_true.1 names fn (by
    have : Tryz.prog.funcs[f]? = some fn := by rw [← GoX.Tab.of_P Tryz.prog 0 [73]]; exact h
    exact List.mem_of_getElem? (by rw [Array.getElem?_toList]; exact this))
  simpa using h2
noncomputable def tabL : List GoX.TabL := []
set_option maxRecDepth 100000 in
theorem run0    : (GoX.denJ K [] 100000 (fun n call ops => GoX.drawC K n call ops) 100 3).go [.bool true, .bool true, .bool true] ⟨0, GoX.tabsT tabL⟩ GoX.isTrue = true := by kernel_rfl
set_option maxRecDepth 100000 in
theorem run1    : (GoX.denJ K [] 100000 (fun n call ops => GoX.drawC K n call ops) 100 3).go [.bool true, .bool true, .bool false] ⟨0, GoX.tabsT tabL⟩ GoX.isTrue = true := by kernel_rfl
set_option maxRecDepth 100000 in
theorem run2    : (GoX.denJ K [] 100000 (fun n call ops => GoX.drawC K n call ops) 100 3).go [.bool true, .bool false, .bool true] ⟨0, GoX.tabsT tabL⟩ GoX.isTrue = true := by kernel_rfl
set_option maxRecDepth 100000 in
theorem run3    : (GoX.denJ K [] 100000 (fun n call ops => GoX.drawC K n call ops) 100 3).go [.bool true, .bool false, .bool false] ⟨0, GoX.tabsT tabL⟩ GoX.isTrue = true := by kernel_rfl
set_option maxRecDepth 100000 in
theorem run4    : (GoX.denJ K [] 100000 (fun n call ops => GoX.drawC K n call ops) 100 3).go [.bool false, .bool true, .bool true] ⟨0, GoX.tabsT tabL⟩ GoX.isTrue = true := by kernel_rfl
set_option maxRecDepth 100000 in
theorem run5    : (GoX.denJ K [] 100000 (fun n call ops => GoX.drawC K n call ops) 100 3).go [.bool false, .bool true, .bool false] ⟨0, GoX.tabsT tabL⟩ GoX.isTrue = true := by kernel_rfl
set_option maxRecDepth 100000 in
theorem run6    : (GoX.denJ K [] 100000 (fun n call ops => GoX.drawC K n call ops) 100 3).go [.bool false, .bool false, .bool true] ⟨0, GoX.tabsT tabL⟩ GoX.isTrue = true := by kernel_rfl
set_option maxRecDepth 100000 in
theorem run7    : (GoX.denJ K [] 100000 (fun n call ops => GoX.drawC K n call ops) 100 3).go [.bool false, .bool false, .bool false] ⟨0, GoX.tabsT tabL⟩ GoX.isTrue = true := by kernel_rfl
theorem run (n0_ : Bool) (n1_ : Bool) (n2_ : Bool) : (GoX.denJ K [] 100000 (fun n call ops => GoX.drawC K n call ops) 100 3).go [.bool n0_, .bool n1_, .bool n2_] ⟨0, GoX.tabsT tabL⟩ GoX.isTrue = true :=
  match n0_, n1_, n2_ with
  | true, true, true => run0 
  | true, true, false => run1 
  | true, false, true => run2 
  | true, false, false => run3 
  | false, true, true => run4 
  | false, true, false => run5 
  | false, false, true => run6 
  | false, false, false => run7 
theorem walk (n0_ : Bool) (n1_ : Bool) (n2_ : Bool) (w : World) (hl : ∀ x ∈ tabL, x.g < 0 ∧ x.lies w) : Calls Tryz.prog 3 #[.bool n0_, .bool n1_, .bool n2_] w fun e w' => e = .returned (.bool true) ∧ GoX.Calm w w' := by
  have h := GoX.true_ofT K_ok (GoX.Tab.of_ng Tryz.prog 0 [73]) K_named (run n0_ n1_ n2_) (xs := [.bool n0_, .bool n1_, .bool n2_]) (by simp [GoX.concs, GoX.conc]) w hl
  rwa [show K.P = Tryz.prog from GoX.Tab.of_P Tryz.prog 0 [73]] at h

set_option maxRecDepth 100000 in
theorem contract (H : Type) (enc : TypeId × Value → H) (W : World) (base : Nat) (args : Array Value) (ds gs : List (DataW H)) (before : List MemPlace)
    (hval : ∀ (j : Nat) t v, Tryz.f3.params[j]? = some t → args[j]? = some v → Value.okWide Tryz.prog W .any base t v)
    (hW : DataW.Whole enc Tryz.prog Tryz.f3.params.toList Rows.connexRowsSpec.vars false W args.toList ds gs before) (hl : ∀ x ∈ tabL, x.g < 0 ∧ x.lies W) :
    Calls Tryz.prog 3 args W fun e W' => ∃ v, e = .returned v ∧ Rows.connexRowsSpec.post enc Tryz.prog Tryz.f3 false true false false W args v W' := by
  have hW' := hW
  obtain ⟨p, q, hA0, hV, rfl, hfz, hnd⟩ := hW
  have hA : DataW.TrodAll enc Tryz.prog W 0 (fun _ => true) true Tryz.f3.params.toList args.toList ds p := hA0
  rw [Tryz.params3] at hA hval
  obtain ⟨v0, vs0, d0, ds0, p0, q0, hargs, rfl, rfl, h0, r0⟩ := trodAll_cons hA
  obtain ⟨v1, vs1, d1, ds1, p1, q1, rfl, rfl, rfl, h1, r1⟩ := trodAll_cons r0
  obtain ⟨v2, vs2, d2, ds2, p2, q2, rfl, rfl, rfl, h2, r2⟩ := trodAll_cons r1
  obtain ⟨rfl, rfl, rfl⟩ := trodAll_nil r2
  obtain rfl : args = #[v0, v1, v2] := by cases args; simp_all
  obtain ⟨rfl, rfl⟩ := trodVars_none hV
  obtain ⟨n0_, rfl⟩ := GoX.arg_bool (P := Tryz.prog) Tryz.underlying4 (hval 0 4 v0 rfl rfl)
  obtain ⟨n1_, rfl⟩ := GoX.arg_bool (P := Tryz.prog) Tryz.underlying4 (hval 1 4 v1 rfl rfl)
  obtain ⟨n2_, rfl⟩ := GoX.arg_bool (P := Tryz.prog) Tryz.underlying4 (hval 2 4 v2 rfl rfl)
  refine (walk n0_ n1_ n2_ W hl).mono fun e W' ⟨he, hg⟩ => ?_
  subst he
  exact ⟨_, rfl, GoX.post_of_calm (tb := 4) (by kernel_rfl) (by decide +kernel) Tryz.underlying4 (by kernel_rfl) rfl rfl hW' hg⟩

noncomputable def laidWorld (os : Os) : World := World.holding Tryz.prog os ⟨#[], #[], []⟩
theorem laid_met (os : Os) : laidMet Tryz.prog Rows.connexRowsRow.laid ((laidWorld os).forCall (fun _ _ => 0) ⟨#[], #[.bool false, .bool false, .bool false], []⟩).memory :=
  laidMet_of_run' 8 (by kernel_rfl) (by kernel_rfl)
theorem reads (os : Os) {H : Type} (enc : TypeId × Value → H) : ∃ places, DataW.whole enc Tryz.prog ((laidWorld os).forCall (fun _ _ => 0) ⟨#[], #[.bool false, .bool false, .bool false], []⟩).memory Tryz.f3.params.toList Rows.connexRowsSpec.vars false (#[.bool false, .bool false, .bool false] : Array Value).toList 8 = some ([.lit (.bool false), .lit (.bool false), .lit (.bool false)], [], places) :=
  ⟨[], by kernel_rfl⟩

set_option maxRecDepth 100000 in
theorem lifted (os : Os) (started : os.Started) (H : Type) (enc : TypeId × Value → H) (F : Stop.Interp) :
    ReturnsInHanded {} Tryz.checked os 3 .any ((OpenSpec.ofChange Rows.connexRowsSpec).preRow enc Tryz.prog Tryz.f3 Rows.connexRowsRow.domain false Rows.connexRowsRow.laid) (((OpenSpec.ofChange Rows.connexRowsSpec).at F).post enc Tryz.prog Tryz.f3 false true false false) := by
  obtain ⟨places, hx⟩ := reads os enc
  refine returnsInHanded_of_row (C := Tryz.checked) (s := OpenSpec.ofChange Rows.connexRowsSpec) own started (by kernel_rfl) Tryz.func3
    (witness_row_at (enc := enc) (C := Tryz.checked) false (laidWorld os) #[.bool false, .bool false, .bool false] rfl (by kernel_rfl) (by kernel_rfl) (by kernel_rfl)
      (OpenSpec.preRow_of_cond 8 hx (by kernel_rfl) (fun k hk => by cases hk) (by kernel_rfl) (laid_met os))) ?_
  intro W base args ds gs before hval hW _ _ _ _ _ _
  exact contract H enc W base args ds gs before hval hW (fun x hx => by cases hx)

/-- Whatever it is given, it answers true and leaves its arguments as they were. -/
theorem said : Rows.ConnexRowsSaid :=
  OpenClaim.holds_of_cond 3 Tryz.f3 rfl rfl rfl rfl rfl rfl rfl ⟨rfl, rfl, rfl, rfl, rfl⟩ rfl rfl rfl rfl rfl (by kernel_rfl) Tryz.func3 (by kernel_rfl)
    (of_decide_eq_true (by kernel_rfl)) (by unfold Func.isWrapper; first | (rw [if_pos (by decide +kernel)]; kernel_rfl) | (rw [if_neg (by decide +kernel)]; exact ⟨rfl, rfl⟩))
    (fun os started H enc _ F => by rw [OpenClaim.pre_eq_preRow]; exact lifted os started H enc F)

end Go.Proofs.YtboiebnfpdojnaaGreat.connexRows
