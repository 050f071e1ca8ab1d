/-
  PROVED: whatever CsrNone of the module is given, it answers true, and its arguments read behind the call as they read before.
-/
import Derived.Test.YtbkldenjldejiaeRows
import Derived.WalkKit
import Derived.ProofKit
import Derived.OpenShut
import Derived.ChangeMaps5
import Derived.Deep.DeepHandedRow
import Derived.Lib.LaidTab
import Derived.Test.YtbkldenjldejiaeXCodeG
import Derived.Test.YtbkldenjldejiaeOrdOrc
import Derived.Test.YtbkldenjldejiaeCsrNoneLaw
namespace Go.Proofs.Ytbkldenjldejiae.csrNone
open Go Go.ChangeShapes Go.WideShapes Go.ChangeAt Go.RowKit
open Go.ChangeMaps (open_string)

theorem own : ownKnob Try.prog.godebug = none := by kernel_rfl

/-! ### The run -/
noncomputable def K := GoX.Tab.of Try.prog 0 []
theorem K_ok : K.Ok := GoX.Tab.of_ok Try.prog 0 [] (by simp) (by decide +kernel)
theorem names : (Try.prog.funcs.toList.all fun fn => !(fn.name == "runtime.NumGoroutine")) = true := by decide +kernel
theorem K_named : ∀ (f : Nat) fn, K.P.funcs[f]? = some fn → (fn.name == "runtime.NumGoroutine") = false := fun f fn h => by
  have h2 := List.all_eq_true.1 names fn (by
    have : Try.prog.funcs[f]? = some fn := by rw [← GoX.Tab.of_P Try.prog 0 []]; exact h
    exact List.mem_of_getElem? (by rw [Array.getElem?_toList]; exact this))
  simpa using h2
noncomputable def tabL : List GoX.TabL := []
theorem lives_run : (GoX.denO K orcT [31] 100000 (fun n call ops => GoX.drawC K n call ops) 100 13).go [] ⟨0, GoX.tabsT tabL⟩ GoX.isTrue = true := by decide +kernel
theorem lives_c (w : World) (hl : ∀ x ∈ tabL, x.g < 0 ∧ x.lies w) : Calls Try.prog 13 #[] w fun e w' => e = .returned (.bool true) ∧ GoX.Calm w w' := by
  have h := GoX.true_ofO K_ok (GoX.Tab.of_ng Try.prog 0 []) K_named (orcT_good (GoX.Tab.of_P Try.prog 0 [])) lives_run (xs := []) (by simp [GoX.concs]) w hl
  rwa [show K.P = Try.prog from GoX.Tab.of_P Try.prog 0 []] at h

theorem labelN_run (x : Value) : (GoX.denJ K [] 100000 (fun n call ops => GoX.drawC K n call ops) 100 4).go [.ptr none, .opq x] ⟨0, GoX.tabsT tabL⟩ (fun v _ => GoX.smV 64 v (.tup [.int .i64 0, .bool false])) = true := by kernel_rfl
theorem labelN_c (x : Value) (hx : x.oneCell' = true) (w : World) (hl : ∀ x ∈ tabL, x.g < 0 ∧ x.lies w) : Calls Try.prog 4 #[.pointer none, x] w fun e w' => e = .returned (.tuple #[.int .i64 0, .bool false]) ∧ GoX.Calm w w' := by
  have h := GoX.val_ofT K_ok (GoX.Tab.of_ng Try.prog 0 _) K_named (v0 := .tup [.int .i64 0, .bool false]) (x0 := .tuple #[.int .i64 0, .bool false]) (fun _ => by simp [GoX.conc, GoX.concs, GoX.concSl, GoX.concP]) (labelN_run x) (xs := [.pointer none, x]) (by simp [GoX.concs, GoX.conc, GoX.concP, GoX.concSl, hx]) w hl
  rwa [show K.P = Try.prog from GoX.Tab.of_P Try.prog 0 _] at h
theorem endsN_run (x : Value) : (GoX.denJ K [] 100000 (fun n call ops => GoX.drawC K n call ops) 100 5).go [.ptr none, .opq x] ⟨0, GoX.tabsT tabL⟩ (fun v _ => GoX.smV 64 v (.tup [.int .i64 0, .int .i64 0, .bool false])) = true := by kernel_rfl
theorem endsN_c (x : Value) (hx : x.oneCell' = true) (w : World) (hl : ∀ x ∈ tabL, x.g < 0 ∧ x.lies w) : Calls Try.prog 5 #[.pointer none, x] w fun e w' => e = .returned (.tuple #[.int .i64 0, .int .i64 0, .bool false]) ∧ GoX.Calm w w' := by
  have h := GoX.val_ofT K_ok (GoX.Tab.of_ng Try.prog 0 _) K_named (v0 := .tup [.int .i64 0, .int .i64 0, .bool false]) (x0 := .tuple #[.int .i64 0, .int .i64 0, .bool false]) (fun _ => by simp [GoX.conc, GoX.concs, GoX.concSl, GoX.concP]) (endsN_run x) (xs := [.pointer none, x]) (by simp [GoX.concs, GoX.conc, GoX.concP, GoX.concSl, hx]) w hl
  rwa [show K.P = Try.prog from GoX.Tab.of_P Try.prog 0 _] at h
theorem nodesN_run : (GoX.denJ K [] 100000 (fun n call ops => GoX.drawC K n call ops) 100 6).go [.ptr none] ⟨0, GoX.tabsT tabL⟩ (fun v _ => GoX.smV 64 v (.int .i64 0)) = true := by decide +kernel
theorem nodesN_c (w : World) (hl : ∀ x ∈ tabL, x.g < 0 ∧ x.lies w) : Calls Try.prog 6 #[.pointer none] w fun e w' => e = .returned (.int .i64 0) ∧ GoX.Calm w w' := by
  have h := GoX.val_ofT K_ok (GoX.Tab.of_ng Try.prog 0 _) K_named (v0 := .int .i64 0) (x0 := .int .i64 0) (fun _ => by simp [GoX.conc, GoX.concs, GoX.concSl, GoX.concP]) (nodesN_run) (xs := [.pointer none]) (by simp [GoX.concs, GoX.conc, GoX.concP, GoX.concSl]) w hl
  rwa [show K.P = Try.prog from GoX.Tab.of_P Try.prog 0 _] at h
theorem edgesN_run : (GoX.denJ K [] 100000 (fun n call ops => GoX.drawC K n call ops) 100 7).go [.ptr none] ⟨0, GoX.tabsT tabL⟩ (fun v _ => GoX.smV 64 v (.int .i64 0)) = true := by decide +kernel
theorem edgesN_c (w : World) (hl : ∀ x ∈ tabL, x.g < 0 ∧ x.lies w) : Calls Try.prog 7 #[.pointer none] w fun e w' => e = .returned (.int .i64 0) ∧ GoX.Calm w w' := by
  have h := GoX.val_ofT K_ok (GoX.Tab.of_ng Try.prog 0 _) K_named (v0 := .int .i64 0) (x0 := .int .i64 0) (fun _ => by simp [GoX.conc, GoX.concs, GoX.concSl, GoX.concP]) (edgesN_run) (xs := [.pointer none]) (by simp [GoX.concs, GoX.conc, GoX.concP, GoX.concSl]) w hl
  rwa [show K.P = Try.prog from GoX.Tab.of_P Try.prog 0 _] at h
theorem labelsN_run : (GoX.denJ K [] 100000 (fun n call ops => GoX.drawC K n call ops) 100 8).go [.ptr none] ⟨0, GoX.tabsT tabL⟩ (fun v _ => GoX.smV 64 v (.sl none 0 (.exact 0))) = true := by decide +kernel
theorem labelsN_c (w : World) (hl : ∀ x ∈ tabL, x.g < 0 ∧ x.lies w) : Calls Try.prog 8 #[.pointer none] w fun e w' => e = .returned (.slice none 0 0) ∧ GoX.Calm w w' := by
  have h := GoX.val_ofT K_ok (GoX.Tab.of_ng Try.prog 0 _) K_named (v0 := .sl none 0 (.exact 0)) (x0 := .slice none 0 0) (fun _ => by simp [GoX.conc, GoX.concs, GoX.concSl, GoX.concP]) (labelsN_run) (xs := [.pointer none]) (by simp [GoX.concs, GoX.conc, GoX.concP, GoX.concSl]) w hl
  rwa [show K.P = Try.prog from GoX.Tab.of_P Try.prog 0 _] at h
theorem outN_run (x : Value) : (GoX.denJ K [] 100000 (fun n call ops => GoX.drawC K n call ops) 100 9).go [.ptr none, .opq x] ⟨0, GoX.tabsT tabL⟩ (fun v _ => GoX.smV 64 v (.sl none 0 (.exact 0))) = true := by kernel_rfl
theorem outN_c (x : Value) (hx : x.oneCell' = true) (w : World) (hl : ∀ x ∈ tabL, x.g < 0 ∧ x.lies w) : Calls Try.prog 9 #[.pointer none, x] w fun e w' => e = .returned (.slice none 0 0) ∧ GoX.Calm w w' := by
  have h := GoX.val_ofT K_ok (GoX.Tab.of_ng Try.prog 0 _) K_named (v0 := .sl none 0 (.exact 0)) (x0 := .slice none 0 0) (fun _ => by simp [GoX.conc, GoX.concs, GoX.concSl, GoX.concP]) (outN_run x) (xs := [.pointer none, x]) (by simp [GoX.concs, GoX.conc, GoX.concP, GoX.concSl, hx]) w hl
  rwa [show K.P = Try.prog from GoX.Tab.of_P Try.prog 0 _] at h
theorem inN_run (x : Value) : (GoX.denJ K [] 100000 (fun n call ops => GoX.drawC K n call ops) 100 10).go [.ptr none, .opq x] ⟨0, GoX.tabsT tabL⟩ (fun v _ => GoX.smV 64 v (.sl none 0 (.exact 0))) = true := by kernel_rfl
theorem inN_c (x : Value) (hx : x.oneCell' = true) (w : World) (hl : ∀ x ∈ tabL, x.g < 0 ∧ x.lies w) : Calls Try.prog 10 #[.pointer none, x] w fun e w' => e = .returned (.slice none 0 0) ∧ GoX.Calm w w' := by
  have h := GoX.val_ofT K_ok (GoX.Tab.of_ng Try.prog 0 _) K_named (v0 := .sl none 0 (.exact 0)) (x0 := .slice none 0 0) (fun _ => by simp [GoX.conc, GoX.concs, GoX.concSl, GoX.concP]) (inN_run x) (xs := [.pointer none, x]) (by simp [GoX.concs, GoX.conc, GoX.concP, GoX.concSl, hx]) w hl
  rwa [show K.P = Try.prog from GoX.Tab.of_P Try.prog 0 _] at h
theorem stepN_run (x : Value) (y : Value) (z : Value) : (GoX.denJ K [] 100000 (fun n call ops => GoX.drawC K n call ops) 100 11).go [.ptr none, .opq x, .agg [.opq y, .opq z]] ⟨0, GoX.tabsT tabL⟩ (fun v _ => GoX.smV 64 v (.sl none 0 (.exact 0))) = true := by kernel_rfl
theorem stepN_c (x : Value) (y : Value) (z : Value) (hx : x.oneCell' = true) (hy : y.oneCell' = true) (hz : z.oneCell' = true) (w : World) (hl : ∀ x ∈ tabL, x.g < 0 ∧ x.lies w) : Calls Try.prog 11 #[.pointer none, x, .agg #[y, z]] w fun e w' => e = .returned (.slice none 0 0) ∧ GoX.Calm w w' := by
  have h := GoX.val_ofT K_ok (GoX.Tab.of_ng Try.prog 0 _) K_named (v0 := .sl none 0 (.exact 0)) (x0 := .slice none 0 0) (fun _ => by simp [GoX.conc, GoX.concs, GoX.concSl, GoX.concP]) (stepN_run x y z) (xs := [.pointer none, x, .agg #[y, z]]) (by simp [GoX.concs, GoX.conc, GoX.concP, GoX.concSl, hx, hy, hz]) w hl
  rwa [show K.P = Try.prog from GoX.Tab.of_P Try.prog 0 _] at h
theorem degreeN_run (x : Value) (y : Value) : (GoX.denJ K [] 100000 (fun n call ops => GoX.drawC K n call ops) 100 12).go [.ptr none, .opq x, .opq y] ⟨0, GoX.tabsT tabL⟩ (fun v _ => GoX.smV 64 v (.int .i64 0)) = true := by kernel_rfl
theorem degreeN_c (x : Value) (y : Value) (hx : x.oneCell' = true) (hy : y.oneCell' = true) (w : World) (hl : ∀ x ∈ tabL, x.g < 0 ∧ x.lies w) : Calls Try.prog 12 #[.pointer none, x, y] w fun e w' => e = .returned (.int .i64 0) ∧ GoX.Calm w w' := by
  have h := GoX.val_ofT K_ok (GoX.Tab.of_ng Try.prog 0 _) K_named (v0 := .int .i64 0) (x0 := .int .i64 0) (fun _ => by simp [GoX.conc, GoX.concs, GoX.concSl, GoX.concP]) (degreeN_run x y) (xs := [.pointer none, x, y]) (by simp [GoX.concs, GoX.conc, GoX.concP, GoX.concSl, hx, hy]) w hl
  rwa [show K.P = Try.prog from GoX.Tab.of_P Try.prog 0 _] at h
theorem nones : Nones :=
  ⟨fun x h w => labelN_c x h w (fun x hx => by cases hx), fun x h w => endsN_c x h w (fun x hx => by cases hx), fun w => nodesN_c w (fun x hx => by cases hx), fun w => edgesN_c w (fun x hx => by cases hx), fun w => labelsN_c w (fun x hx => by cases hx),
    fun x h w => outN_c x h w (fun x hx => by cases hx), fun x h w => inN_c x h w (fun x hx => by cases hx), fun x y z hx hy hz w => stepN_c x y z hx hy hz w (fun x hx => by cases hx), fun x y hx hy w => degreeN_c x y hx hy w (fun x hx => by cases hx), fun w => lives_c w (fun x hx => by cases hx)⟩
theorem walk (n : Int) (_ : (Lit.int .i64 n).wf = true) (s0 : Value) (h0 : s0.oneCell' = true) (s1 : Value) (h1 : s1.oneCell' = true) (w : World) (_ : ∀ x ∈ tabL, x.g < 0 ∧ x.lies w) :
    Calls Try.prog 3 #[.int .i64 n, .agg #[s0, s1]] w fun e w' => e = .returned (.bool true) ∧ GoX.Calm w w' := law_c n s0 s1 h0 h1 w nones

set_option maxRecDepth 100000 in
theorem contract (H : Type) (enc : TypeId × Value → H) (W : World) (base : Nat) (args : Array Value) (ds gs : List (DataW H)) (before : List MemPlace)
    (hval : ∀ (j : Nat) t v, Try.f3.params[j]? = some t → args[j]? = some v → Value.okWide Try.prog W .any base t v)
    (hW : DataW.Whole enc Try.prog Try.f3.params.toList Rows.csrNoneSpec.vars false W args.toList ds gs before) (hl : ∀ x ∈ tabL, x.g < 0 ∧ x.lies W) :
    Calls Try.prog 3 args W fun e W' => ∃ v, e = .returned v ∧ Rows.csrNoneSpec.post enc Try.prog Try.f3 false true false false W args v W' := by
  have hW' := hW
  obtain ⟨p, q, hA0, hV, rfl, hfz, hnd⟩ := hW
  have hA : DataW.TrodAll enc Try.prog W 0 (fun _ => true) true Try.f3.params.toList args.toList ds p := hA0
  rw [Try.params3] at hA hval
  obtain ⟨v0, vs0, d0, ds0, p0, q0, hargs, rfl, rfl, h0, r0⟩ := trodAll_cons hA
  obtain ⟨v1, vs1, d1, ds1, p1, q1, rfl, rfl, rfl, h1, r1⟩ := trodAll_cons r0
  obtain ⟨rfl, rfl, rfl⟩ := trodAll_nil r1
  obtain rfl : args = #[v0, v1] := by cases args; simp_all
  obtain ⟨rfl, rfl⟩ := trodVars_none hV
  obtain ⟨a0, rfl, _, _, w0⟩ := open_int Try.underlying3 (hval 0 3 v0 rfl rfl) h0
  obtain ⟨ts1, hts1, hlen1⟩ : ∃ ts, Try.prog.cellTypes Try.prog.depth 23 = some ts ∧ ts = [9, 4] := ⟨_, by kernel_rfl, rfl⟩
  obtain ⟨l1, n1, rfl, c1, u1⟩ := GoX.arg_typed (n := 2) (by kernel_rfl) (by kernel_rfl) hts1 (by rw [hlen1]; rfl) (hval 1 23 v1 rfl rfl)
  subst hlen1
  obtain ⟨y1_0, y1_1, rfl⟩ : ∃ y1_0 y1_1, l1 = [y1_0, y1_1] := by
    match l1, n1 with
    | [y1_0, y1_1], _ => exact ⟨y1_0, y1_1, rfl⟩
  refine (walk a0 w0 y1_0 (c1 _ (by simp)) y1_1 (c1 _ (by simp)) W hl).mono fun e W' ⟨he, hg⟩ => ?_
  subst he
  exact ⟨_, rfl, GoX.post_of_calm (tb := 4) (by kernel_rfl) (by decide +kernel) Try.underlying4 (by kernel_rfl) rfl rfl hW' hg⟩

noncomputable def laidWorld (os : Os) : World := World.holding Try.prog os ⟨#[], #[], []⟩
theorem laid_met (os : Os) : laidMet Try.prog Rows.csrNoneRow.laid ((laidWorld os).forCall (fun _ _ => 0) ⟨#[], #[.int .i64 0, .agg #[.string .empty, .bool false]], []⟩).memory :=
  laidMet_of_run' 8 (by kernel_rfl) (by kernel_rfl)
theorem reads (os : Os) {H : Type} (enc : TypeId × Value → H) : ∃ places, DataW.whole enc Try.prog ((laidWorld os).forCall (fun _ _ => 0) ⟨#[], #[.int .i64 0, .agg #[.string .empty, .bool false]], []⟩).memory Try.f3.params.toList Rows.csrNoneSpec.vars false (#[.int .i64 0, .agg #[.string .empty, .bool false]] : Array Value).toList 8 = some ([.lit (.int .i64 0), .agg [.lit (.string []), .lit (.bool false)]], [], places) :=
  ⟨[], by kernel_rfl⟩

set_option maxRecDepth 100000 in
theorem lifted (os : Os) (started : os.Started) (H : Type) (enc : TypeId × Value → H) (F : Stop.Interp) :
    ReturnsInHanded {} Try.checked os 3 .any ((OpenSpec.ofChange Rows.csrNoneSpec).preRow enc Try.prog Try.f3 Rows.csrNoneRow.domain false Rows.csrNoneRow.laid) (((OpenSpec.ofChange Rows.csrNoneSpec).at F).post enc Try.prog Try.f3 false true false false) := by
  obtain ⟨places, hx⟩ := reads os enc
  refine returnsInHanded_of_row (C := Try.checked) (s := OpenSpec.ofChange Rows.csrNoneSpec) own started (by kernel_rfl) Try.func3
    (witness_row_at (enc := enc) (C := Try.checked) false (laidWorld os) #[.int .i64 0, .agg #[.string .empty, .bool false]] rfl (by kernel_rfl) (by kernel_rfl) (by kernel_rfl)
      (OpenSpec.preRow_of_cond 8 hx (by kernel_rfl) (fun k hk => by cases hk) (by kernel_rfl) (laid_met os))) ?_
  intro W base args ds gs before hval hW _ _ _ _ _ _
  exact contract H enc W base args ds gs before hval hW (fun x hx => by cases hx)

/-- Whatever it is given, it answers true and leaves its arguments as they were. -/
theorem said : Rows.CsrNoneSaid :=
  OpenClaim.holds_of_cond 3 Try.f3 rfl rfl rfl rfl rfl rfl rfl ⟨rfl, rfl, rfl, rfl, rfl⟩ rfl rfl rfl rfl rfl (by kernel_rfl) Try.func3 (by kernel_rfl)
    (of_decide_eq_true (by kernel_rfl)) (by unfold Func.isWrapper; first | (rw [if_pos (by decide +kernel)]; kernel_rfl) | (rw [if_neg (by decide +kernel)]; exact ⟨rfl, rfl⟩))
    (fun os started H enc _ F => by rw [OpenClaim.pre_eq_preRow]; exact lifted os started H enc F)

end Go.Proofs.Ytbkldenjldejiae.csrNone
