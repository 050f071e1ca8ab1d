/-
  PROVED: whatever AccessNone of the module is given, it answers true, and its arguments read behind the call as they read before.
-/
import Derived.Test.YtcobmmebnmegfabRows
import Derived.WalkKit
import Derived.ProofKit
import Derived.OpenShut
import Derived.ChangeMaps5
import Derived.Deep.DeepHandedRow
import Derived.Lib.LaidTab
import Derived.Test.YtcobmmebnmegfabXCodeG
import Derived.Test.YtcobmmebnmegfabAccessNoneLaw
namespace Go.Proofs.Ytcobmmebnmegfab.accessNone
open Go Go.ChangeShapes Go.WideShapes Go.ChangeAt Go.RowKit
open Go.ChangeMaps (open_string)

theorem own : ownKnob Try.prog.godebug = none := by kernel_rfl

/-! ### The run -/
noncomputable def K := GoX.Tab.of Try.prog 0 [104, 84]
theorem K_ok : K.Ok := GoX.Tab.of_ok Try.prog 0 [104, 84] (by decide +kernel) (by decide +kernel)
theorem names : (Try.prog.funcs.toList.all fun fn => !(fn.name == "runtime.NumGoroutine")) = true := by decide +kernel
theorem K_named : ∀ (f : Nat) fn, K.P.funcs[f]? = some fn → (fn.name == "runtime.NumGoroutine") = false := fun f fn h => by
  have h2 := List.all_eq_true.1 names fn (by
    have : Try.prog.funcs[f]? = some fn := by rw [← GoX.Tab.of_P Try.prog 0 [104, 84]]; exact h
    exact List.mem_of_getElem? (by rw [Array.getElem?_toList]; exact this))
  simpa using h2
noncomputable def tabL : List GoX.TabL := []
theorem lives_run : (GoX.denJ K [] 100000 (fun n call ops => GoX.drawC K n call ops) 100 9).go [] ⟨0, GoX.tabsT tabL⟩ GoX.isTrue = true := by decide +kernel
theorem lives_c (w : World) (hl : ∀ x ∈ tabL, x.g < 0 ∧ x.lies w) : Calls Try.prog 9 #[] w fun e w' => e = .returned (.bool true) ∧ GoX.Calm w w' := by
  have h := GoX.true_ofT K_ok (GoX.Tab.of_ng Try.prog 0 [104, 84]) K_named lives_run (xs := []) (by simp [GoX.concs]) w hl
  rwa [show K.P = Try.prog from GoX.Tab.of_P Try.prog 0 [104, 84]] at h

theorem at0_run : (GoX.denJ K [] 100000 (fun n call ops => GoX.drawC K n call ops) 100 4).go [.ptr none, .int .u64 (.ofNat 0)] ⟨0, GoX.tabsT tabL⟩ (fun v _ => GoX.smV 64 v (.tup [.agg [.sl none 0 (.exact 0), .int .i64 0, .int .u64 0], .int .u64 0, .bool false])) = true := by decide +kernel
theorem at0_c (w : World) (hl : ∀ x ∈ tabL, x.g < 0 ∧ x.lies w) : Calls Try.prog 4 #[.pointer none, .int .u64 (.ofNat 0)] w fun e w' => e = .returned (.tuple #[.agg #[.slice none 0 0, .int .i64 0, .int .u64 0], .int .u64 0, .bool false]) ∧ GoX.Calm w w' := by
  have h := GoX.val_ofT K_ok (GoX.Tab.of_ng Try.prog 0 _) K_named (v0 := .tup [.agg [.sl none 0 (.exact 0), .int .i64 0, .int .u64 0], .int .u64 0, .bool false]) (x0 := .tuple #[.agg #[.slice none 0 0, .int .i64 0, .int .u64 0], .int .u64 0, .bool false]) (fun _ => by simp [GoX.conc, GoX.concs, GoX.concSl, GoX.concP]) (at0_run) (xs := [.pointer none, .int .u64 (.ofNat 0)]) (by simp [GoX.concs, GoX.conc, GoX.concP, GoX.concSl]) w hl
  rwa [show K.P = Try.prog from GoX.Tab.of_P Try.prog 0 _] at h
theorem at1_run (n : Nat) : (GoX.denJ K [] 100000 (fun n call ops => GoX.drawC K n call ops) 100 4).go [.ptr none, .int .u64 (.ofNat (n + 1))] ⟨0, GoX.tabsT tabL⟩ (fun v _ => GoX.smV 64 v (.tup [.agg [.sl none 0 (.exact 0), .int .i64 0, .int .u64 0], .int .u64 0, .bool false])) = true := by kernel_rfl
theorem at1_c (n : Nat) (w : World) (hl : ∀ x ∈ tabL, x.g < 0 ∧ x.lies w) : Calls Try.prog 4 #[.pointer none, .int .u64 (.ofNat (n + 1))] w fun e w' => e = .returned (.tuple #[.agg #[.slice none 0 0, .int .i64 0, .int .u64 0], .int .u64 0, .bool false]) ∧ GoX.Calm w w' := by
  have h := GoX.val_ofT K_ok (GoX.Tab.of_ng Try.prog 0 _) K_named (v0 := .tup [.agg [.sl none 0 (.exact 0), .int .i64 0, .int .u64 0], .int .u64 0, .bool false]) (x0 := .tuple #[.agg #[.slice none 0 0, .int .i64 0, .int .u64 0], .int .u64 0, .bool false]) (fun _ => by simp [GoX.conc, GoX.concs, GoX.concSl, GoX.concP]) (at1_run n) (xs := [.pointer none, .int .u64 (.ofNat (n + 1))]) (by simp [GoX.concs, GoX.conc, GoX.concP, GoX.concSl]) w hl
  rwa [show K.P = Try.prog from GoX.Tab.of_P Try.prog 0 _] at h
theorem rankN_run (x : Value) : (GoX.denJ K [] 100000 (fun n call ops => GoX.drawC K n call ops) 100 5).go [.ptr none, .opq x] ⟨0, GoX.tabsT tabL⟩ (fun v _ => GoX.smV 64 v (.tup [.int .u64 0, .bool false])) = true := by kernel_rfl
theorem rankN_c (x : Value) (hx : x.oneCell' = true) (w : World) (hl : ∀ x ∈ tabL, x.g < 0 ∧ x.lies w) : Calls Try.prog 5 #[.pointer none, x] w fun e w' => e = .returned (.tuple #[.int .u64 0, .bool false]) ∧ GoX.Calm w w' := by
  have h := GoX.val_ofT K_ok (GoX.Tab.of_ng Try.prog 0 _) K_named (v0 := .tup [.int .u64 0, .bool false]) (x0 := .tuple #[.int .u64 0, .bool false]) (fun _ => by simp [GoX.conc, GoX.concs, GoX.concSl, GoX.concP]) (rankN_run x) (xs := [.pointer none, x]) (by simp [GoX.concs, GoX.conc, GoX.concP, GoX.concSl, hx]) w hl
  rwa [show K.P = Try.prog from GoX.Tab.of_P Try.prog 0 _] at h
theorem aheadN_run (x : Value) : (GoX.denJ K [] 100000 (fun n call ops => GoX.drawC K n call ops) 100 7).go [.ptr none, .opq x] ⟨0, GoX.tabsT tabL⟩ (fun v _ => GoX.smV 64 v (.int .u64 0)) = true := by kernel_rfl
theorem aheadN_c (x : Value) (hx : x.oneCell' = true) (w : World) (hl : ∀ x ∈ tabL, x.g < 0 ∧ x.lies w) : Calls Try.prog 7 #[.pointer none, x] w fun e w' => e = .returned (.int .u64 0) ∧ GoX.Calm w w' := by
  have h := GoX.val_ofT K_ok (GoX.Tab.of_ng Try.prog 0 _) K_named (v0 := .int .u64 0) (x0 := .int .u64 0) (fun _ => by simp [GoX.conc, GoX.concs, GoX.concSl, GoX.concP]) (aheadN_run x) (xs := [.pointer none, x]) (by simp [GoX.concs, GoX.conc, GoX.concP, GoX.concSl, hx]) w hl
  rwa [show K.P = Try.prog from GoX.Tab.of_P Try.prog 0 _] at h
theorem work0_run : (GoX.denJ K [] 100000 (fun n call ops => GoX.drawC K n call ops) 100 8).go [.ptr none, .int .u64 (.ofNat 0)] ⟨0, GoX.tabsT tabL⟩ (fun v _ => GoX.smV 64 v (.int .i64 0)) = true := by decide +kernel
theorem work0_c (w : World) (hl : ∀ x ∈ tabL, x.g < 0 ∧ x.lies w) : Calls Try.prog 8 #[.pointer none, .int .u64 (.ofNat 0)] w fun e w' => e = .returned (.int .i64 0) ∧ GoX.Calm w w' := by
  have h := GoX.val_ofT K_ok (GoX.Tab.of_ng Try.prog 0 _) K_named (v0 := .int .i64 0) (x0 := .int .i64 0) (fun _ => by simp [GoX.conc, GoX.concs, GoX.concSl, GoX.concP]) (work0_run) (xs := [.pointer none, .int .u64 (.ofNat 0)]) (by simp [GoX.concs, GoX.conc, GoX.concP, GoX.concSl]) w hl
  rwa [show K.P = Try.prog from GoX.Tab.of_P Try.prog 0 _] at h
theorem work1_run (n : Nat) : (GoX.denJ K [] 100000 (fun n call ops => GoX.drawC K n call ops) 100 8).go [.ptr none, .int .u64 (.ofNat (n + 1))] ⟨0, GoX.tabsT tabL⟩ (fun v _ => GoX.smV 64 v (.int .i64 0)) = true := by kernel_rfl
theorem work1_c (n : Nat) (w : World) (hl : ∀ x ∈ tabL, x.g < 0 ∧ x.lies w) : Calls Try.prog 8 #[.pointer none, .int .u64 (.ofNat (n + 1))] w fun e w' => e = .returned (.int .i64 0) ∧ GoX.Calm w w' := by
  have h := GoX.val_ofT K_ok (GoX.Tab.of_ng Try.prog 0 _) K_named (v0 := .int .i64 0) (x0 := .int .i64 0) (fun _ => by simp [GoX.conc, GoX.concs, GoX.concSl, GoX.concP]) (work1_run n) (xs := [.pointer none, .int .u64 (.ofNat (n + 1))]) (by simp [GoX.concs, GoX.conc, GoX.concP, GoX.concSl]) w hl
  rwa [show K.P = Try.prog from GoX.Tab.of_P Try.prog 0 _] at h
theorem nones (k : Int) (hk : 0 ≤ k) : Nones k := by
  obtain ⟨m, rfl⟩ := Int.eq_ofNat_of_zero_le hk
  refine ⟨fun w => ?_, fun x hx w => rankN_c x hx w (fun x hx => by cases hx), fun x hx w => aheadN_c x hx w (fun x hx => by cases hx), fun w => ?_, fun w => lives_c w (fun x hx => by cases hx)⟩
  · cases m with
    | zero => exact at0_c w (fun x hx => by cases hx)
    | succ n => exact at1_c n w (fun x hx => by cases hx)
  · cases m with
    | zero => exact work0_c w (fun x hx => by cases hx)
    | succ n => exact work1_c n w (fun x hx => by cases hx)
theorem walk (k : Int) (hk : (Lit.int .u64 k).wf = true) (v : Value) (zs : List Int) (hz : zs.length ≤ maxLen) (_ : ∀ z ∈ zs, (Lit.int .i64 z).wf = true) (w : World) (_ : ∀ x ∈ tabL, x.g < 0 ∧ x.lies w) (hv : Holds w v (zs.map (Value.int .i64))) :
    Calls Try.prog 3 #[.int .u64 k, v] w fun e w' => e = .returned (.bool true) ∧ GoX.Calm w w' :=
  law_c k v zs w hv (by unfold maxLen at hz; omega) (nones k (by
    simp [Lit.wf, IntKind.min, IntKind.max, IntKind.signed, IntKind.bits] at hk
    omega))

set_option maxRecDepth 100000 in
theorem contract (H : Type) (enc : TypeId × Value → H) (W : World) (base : Nat) (args : Array Value) (ds gs : List (DataW H)) (before : List MemPlace)
    (hval : ∀ (j : Nat) t v, Try.f3.params[j]? = some t → args[j]? = some v → Value.okWide Try.prog W .any base t v)
    (hW : DataW.Whole enc Try.prog Try.f3.params.toList Rows.accessNoneSpec.vars false W args.toList ds gs before) (hl : ∀ x ∈ tabL, x.g < 0 ∧ x.lies W) :
    Calls Try.prog 3 args W fun e W' => ∃ v, e = .returned v ∧ Rows.accessNoneSpec.post enc Try.prog Try.f3 false true false false W args v W' := by
  have hW' := hW
  obtain ⟨p, q, hA0, hV, rfl, hfz, hnd⟩ := hW
  have hA : DataW.TrodAll enc Try.prog W 0 (fun _ => true) true Try.f3.params.toList args.toList ds p := hA0
  rw [Try.params3] at hA hval
  obtain ⟨v0, vs0, d0, ds0, p0, q0, hargs, rfl, rfl, h0, r0⟩ := trodAll_cons hA
  obtain ⟨v1, vs1, d1, ds1, p1, q1, rfl, rfl, rfl, h1, r1⟩ := trodAll_cons r0
  obtain ⟨rfl, rfl, rfl⟩ := trodAll_nil r1
  obtain rfl : args = #[v0, v1] := by cases args; simp_all
  obtain ⟨rfl, rfl⟩ := trodVars_none hV
  obtain ⟨a0, rfl, _, _, w0⟩ := open_int Try.underlying22 (hval 0 22 v0 rfl rfl) h0
  obtain ⟨zs1, n1, rfl, hh1, m1, wf1⟩ := open_row Try.underlying23 Try.underlying3 (by kernel_rfl) (hval 1 23 v1 rfl rfl) h1 (fun _ => rfl)
  refine (walk a0 w0 v1 zs1 m1 wf1 W hl hh1).mono fun e W' ⟨he, hg⟩ => ?_
  subst he
  exact ⟨_, rfl, GoX.post_of_calm (tb := 4) (by kernel_rfl) (by decide +kernel) Try.underlying4 (by kernel_rfl) rfl rfl hW' hg⟩

noncomputable def laidWorld (os : Os) : World := World.holding Try.prog os ⟨#[], #[], []⟩
theorem laid_met (os : Os) : laidMet Try.prog Rows.accessNoneRow.laid ((laidWorld os).forCall (fun _ _ => 0) ⟨#[], #[.int .u64 0, .slice none 0 0], []⟩).memory :=
  laidMet_of_run' 8 (by kernel_rfl) (by kernel_rfl)
theorem reads (os : Os) {H : Type} (enc : TypeId × Value → H) : ∃ places, DataW.whole enc Try.prog ((laidWorld os).forCall (fun _ _ => 0) ⟨#[], #[.int .u64 0, .slice none 0 0], []⟩).memory Try.f3.params.toList Rows.accessNoneSpec.vars false (#[.int .u64 0, .slice none 0 0] : Array Value).toList 8 = some ([.lit (.int .u64 0), .nil], [], places) :=
  ⟨[], by kernel_rfl⟩

set_option maxRecDepth 100000 in
theorem lifted (os : Os) (started : os.Started) (H : Type) (enc : TypeId × Value → H) (F : Stop.Interp) :
    ReturnsInHanded {} Try.checked os 3 .any ((OpenSpec.ofChange Rows.accessNoneSpec).preRow enc Try.prog Try.f3 Rows.accessNoneRow.domain false Rows.accessNoneRow.laid) (((OpenSpec.ofChange Rows.accessNoneSpec).at F).post enc Try.prog Try.f3 false true false false) := by
  obtain ⟨places, hx⟩ := reads os enc
  refine returnsInHanded_of_row (C := Try.checked) (s := OpenSpec.ofChange Rows.accessNoneSpec) own started (by kernel_rfl) Try.func3
    (witness_row_at (enc := enc) (C := Try.checked) false (laidWorld os) #[.int .u64 0, .slice none 0 0] rfl (by kernel_rfl) (by kernel_rfl) (by kernel_rfl)
      (OpenSpec.preRow_of_cond 8 hx (by kernel_rfl) (fun k hk => by cases hk) (by kernel_rfl) (laid_met os))) ?_
  intro W base args ds gs before hval hW _ _ _ _ _ _
  exact contract H enc W base args ds gs before hval hW (fun x hx => by cases hx)

/-- Whatever it is given, it answers true and leaves its arguments as they were. -/
theorem said : Rows.AccessNoneSaid :=
  OpenClaim.holds_of_cond 3 Try.f3 rfl rfl rfl rfl rfl rfl rfl ⟨rfl, rfl, rfl, rfl, rfl⟩ rfl rfl rfl rfl rfl (by kernel_rfl) Try.func3 (by kernel_rfl)
    (of_decide_eq_true (by kernel_rfl)) (by unfold Func.isWrapper; first | (rw [if_pos (by decide +kernel)]; kernel_rfl) | (rw [if_neg (by decide +kernel)]; exact ⟨rfl, rfl⟩))
    (fun os started H enc _ F => by rw [OpenClaim.pre_eq_preRow]; exact lifted os started H enc F)

end Go.Proofs.Ytcobmmebnmegfab.accessNone
