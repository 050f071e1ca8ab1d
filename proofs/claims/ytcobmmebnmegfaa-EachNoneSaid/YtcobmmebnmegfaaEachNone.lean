/-
  PROVED: whatever EachNone of the module is given, it answers true, and its arguments read behind the call as they read before.
-/
import Derived.Test.YtcobmmebnmegfaaRows
import Derived.WalkKit
import Derived.ProofKit
import Derived.OpenShut
import Derived.ChangeMaps5
import Derived.Deep.DeepHandedRow
import Derived.Lib.LaidTab
import Derived.Test.YtcobmmebnmegfaaXCodeG
import Derived.Test.YtcobmmebnmegfaaEachNoneLaw
namespace Go.Proofs.Ytcobmmebnmegfaa.eachNone
open Go Go.ChangeShapes Go.WideShapes Go.ChangeAt Go.RowKit
open Go.ChangeMaps (open_string)

theorem own : ownKnob Try.prog.godebug = none := by kernel_rfl

/-! ### The run -/
noncomputable def K := GoX.Tab.of Try.prog 0 [85]
theorem K_ok : K.Ok := GoX.Tab.of_ok Try.prog 0 [85] (by decide +kernel) (by decide +kernel)
theorem names : (Try.prog.funcs.toList.all fun fn => !(fn.name == "runtime.NumGoroutine")) = true := by decide +kernel
theorem K_named : ∀ (f : Nat) fn, K.P.funcs[f]? = some fn → (fn.name == "runtime.NumGoroutine") = false := fun f fn h => by
  have h2 := List.all_eq_true.1 names fn (by
    have : Try.prog.funcs[f]? = some fn := by rw [← GoX.Tab.of_P Try.prog 0 [85]]; exact h
    exact List.mem_of_getElem? (by rw [Array.getElem?_toList]; exact this))
  simpa using h2
noncomputable def tabL : List GoX.TabL := []
theorem lives_run : (GoX.denJ K [] 100000 (fun n call ops => GoX.drawC K n call ops) 100 14).go [] ⟨0, GoX.tabsT tabL⟩ GoX.isTrue = true := by decide +kernel
theorem lives_c (w : World) (hl : ∀ x ∈ tabL, x.g < 0 ∧ x.lies w) : Calls Try.prog 14 #[] w fun e w' => e = .returned (.bool true) ∧ GoX.Calm w w' := by
  have h := GoX.true_ofT K_ok (GoX.Tab.of_ng Try.prog 0 [85]) K_named lives_run (xs := []) (by simp [GoX.concs]) w hl
  rwa [show K.P = Try.prog from GoX.Tab.of_P Try.prog 0 [85]] at h

theorem stepN_run : (GoX.denJ K [] 100000 (fun n call ops => GoX.drawC K n call ops) 100 4).go [.ptr none] ⟨0, GoX.tabsT tabL⟩ (fun v _ => GoX.smV 64 v (.tup [.agg [.sl none 0 (.exact 0), .int .i64 0, .int .u64 0], .bool false])) = true := by decide +kernel
theorem stepN_c (w : World) (hl : ∀ x ∈ tabL, x.g < 0 ∧ x.lies w) : Calls Try.prog 4 #[.pointer none] w fun e w' => e = .returned (.tuple #[.agg #[.slice none 0 0, .int .i64 0, .int .u64 0], .bool false]) ∧ GoX.Calm w w' := by
  have h := GoX.val_ofT K_ok (GoX.Tab.of_ng Try.prog 0 _) K_named (v0 := .tup [.agg [.sl none 0 (.exact 0), .int .i64 0, .int .u64 0], .bool false]) (x0 := .tuple #[.agg #[.slice none 0 0, .int .i64 0, .int .u64 0], .bool false]) (fun _ => by simp [GoX.conc, GoX.concs, GoX.concSl, GoX.concP]) (stepN_run) (xs := [.pointer none]) (by simp [GoX.concs, GoX.conc, GoX.concP, GoX.concSl]) w hl
  rwa [show K.P = Try.prog from GoX.Tab.of_P Try.prog 0 _] at h
theorem nextN_run : (GoX.denJ K [] 100000 (fun n call ops => GoX.drawC K n call ops) 100 5).go [.ptr none] ⟨0, GoX.tabsT tabL⟩ (fun v _ => GoX.smV 64 v (.tup [.agg [.sl none 0 (.exact 0), .int .i64 0, .int .u64 0], .bool false])) = true := by decide +kernel
theorem nextN_c (w : World) (hl : ∀ x ∈ tabL, x.g < 0 ∧ x.lies w) : Calls Try.prog 5 #[.pointer none] w fun e w' => e = .returned (.tuple #[.agg #[.slice none 0 0, .int .i64 0, .int .u64 0], .bool false]) ∧ GoX.Calm w w' := by
  have h := GoX.val_ofT K_ok (GoX.Tab.of_ng Try.prog 0 _) K_named (v0 := .tup [.agg [.sl none 0 (.exact 0), .int .i64 0, .int .u64 0], .bool false]) (x0 := .tuple #[.agg #[.slice none 0 0, .int .i64 0, .int .u64 0], .bool false]) (fun _ => by simp [GoX.conc, GoX.concs, GoX.concSl, GoX.concP]) (nextN_run) (xs := [.pointer none]) (by simp [GoX.concs, GoX.conc, GoX.concP, GoX.concSl]) w hl
  rwa [show K.P = Try.prog from GoX.Tab.of_P Try.prog 0 _] at h
theorem firstN_run : (GoX.denJ K [] 100000 (fun n call ops => GoX.drawC K n call ops) 100 6).go [.ptr none] ⟨0, GoX.tabsT tabL⟩ (fun v _ => GoX.smV 64 v (.tup [.agg [.sl none 0 (.exact 0), .int .i64 0, .int .u64 0], .bool false])) = true := by decide +kernel
theorem firstN_c (w : World) (hl : ∀ x ∈ tabL, x.g < 0 ∧ x.lies w) : Calls Try.prog 6 #[.pointer none] w fun e w' => e = .returned (.tuple #[.agg #[.slice none 0 0, .int .i64 0, .int .u64 0], .bool false]) ∧ GoX.Calm w w' := by
  have h := GoX.val_ofT K_ok (GoX.Tab.of_ng Try.prog 0 _) K_named (v0 := .tup [.agg [.sl none 0 (.exact 0), .int .i64 0, .int .u64 0], .bool false]) (x0 := .tuple #[.agg #[.slice none 0 0, .int .i64 0, .int .u64 0], .bool false]) (fun _ => by simp [GoX.conc, GoX.concs, GoX.concSl, GoX.concP]) (firstN_run) (xs := [.pointer none]) (by simp [GoX.concs, GoX.conc, GoX.concP, GoX.concSl]) w hl
  rwa [show K.P = Try.prog from GoX.Tab.of_P Try.prog 0 _] at h
theorem behindN_run (x : Value) : (GoX.denJ K [] 100000 (fun n call ops => GoX.drawC K n call ops) 100 7).go [.ptr none, .opq x] ⟨0, GoX.tabsT tabL⟩ (fun v _ => GoX.smV 64 v (.tup [.agg [.sl none 0 (.exact 0), .int .i64 0, .int .u64 0], .bool false])) = true := by kernel_rfl
theorem behindN_c (x : Value) (hx : x.oneCell' = true) (w : World) (hl : ∀ x ∈ tabL, x.g < 0 ∧ x.lies w) : Calls Try.prog 7 #[.pointer none, x] w fun e w' => e = .returned (.tuple #[.agg #[.slice none 0 0, .int .i64 0, .int .u64 0], .bool false]) ∧ GoX.Calm w w' := by
  have h := GoX.val_ofT K_ok (GoX.Tab.of_ng Try.prog 0 _) K_named (v0 := .tup [.agg [.sl none 0 (.exact 0), .int .i64 0, .int .u64 0], .bool false]) (x0 := .tuple #[.agg #[.slice none 0 0, .int .i64 0, .int .u64 0], .bool false]) (fun _ => by simp [GoX.conc, GoX.concs, GoX.concSl, GoX.concP]) (behindN_run x) (xs := [.pointer none, x]) (by simp [GoX.concs, GoX.conc, GoX.concP, GoX.concSl, hx]) w hl
  rwa [show K.P = Try.prog from GoX.Tab.of_P Try.prog 0 _] at h
theorem nextP_run : (GoX.denJ K [] 100000 (fun n call ops => GoX.drawC K n call ops) 100 5).go [.ptr (some (0, 0))] ⟨1, GoX.Trie.leaf.set 0 (some (.cells [.ptr none, .sl none 0 (.exact 0), .bool false, .bool true, .int .i64 0] 42 1))⟩ (fun v _ => GoX.smV 64 v (.tup [.agg [.sl none 0 (.exact 0), .int .i64 0, .int .u64 0], .bool false])) = true := by decide +kernel
theorem nextP_c (b : Nat) (w : World) (hb : w.heap[b]? = some (.cells #[.pointer none, .slice none 0 0, .bool false, .bool true, .int .i64 0] 42)) : Calls Try.prog 5 #[.pointer (some ⟨b, 0, none⟩)] w fun e w' => e = .returned (.tuple #[.agg #[.slice none 0 0, .int .i64 0, .int .u64 0], .bool false]) ∧ GoX.Calm w w' := by
  have h := GoX.val_of1 K_ok (GoX.Tab.of_ng Try.prog 0 _) K_named (cs := [.ptr none, .sl none 0 (.exact 0), .bool false, .bool true, .int .i64 0]) (vs := [.pointer none, .slice none 0 0, .bool false, .bool true, .int .i64 0]) (v0 := .tup [.agg [.sl none 0 (.exact 0), .int .i64 0, .int .u64 0], .bool false]) (x0 := .tuple #[.agg #[.slice none 0 0, .int .i64 0, .int .u64 0], .bool false]) (fun _ => by simp [GoX.conc, GoX.concs, GoX.concSl, GoX.concP]) (fun _ => by simp [GoX.conc, GoX.concs, GoX.concSl, GoX.concP]) (nextP_run) (xs := [.pointer (some ⟨b, 0, none⟩)]) (b := b) (by simp [GoX.concs, GoX.conc, GoX.concP, GoX.concSl]) w hb
  rwa [show K.P = Try.prog from GoX.Tab.of_P Try.prog 0 _] at h
theorem overN_run : (GoX.denJ K [] 100000 (fun n call ops => GoX.drawC K n call ops) 100 10).go [.ptr none] ⟨0, GoX.tabsT tabL⟩ (fun v _ => GoX.smV 64 v (.bool true)) = true := by decide +kernel
theorem overN_c (w : World) (hl : ∀ x ∈ tabL, x.g < 0 ∧ x.lies w) : Calls Try.prog 10 #[.pointer none] w fun e w' => e = .returned (.bool true) ∧ GoX.Calm w w' := by
  have h := GoX.val_ofT K_ok (GoX.Tab.of_ng Try.prog 0 _) K_named (v0 := .bool true) (x0 := .bool true) (fun _ => by simp [GoX.conc, GoX.concs, GoX.concSl, GoX.concP]) (overN_run) (xs := [.pointer none]) (by simp [GoX.concs, GoX.conc, GoX.concP, GoX.concSl]) w hl
  rwa [show K.P = Try.prog from GoX.Tab.of_P Try.prog 0 _] at h
theorem overP_run : (GoX.denJ K [] 100000 (fun n call ops => GoX.drawC K n call ops) 100 10).go [.ptr (some (0, 0))] ⟨1, GoX.Trie.leaf.set 0 (some (.cells [.ptr none, .sl none 0 (.exact 0), .bool false, .bool true, .int .i64 0] 42 1))⟩ (fun v _ => GoX.smV 64 v (.bool true)) = true := by decide +kernel
theorem overP_c (b : Nat) (w : World) (hb : w.heap[b]? = some (.cells #[.pointer none, .slice none 0 0, .bool false, .bool true, .int .i64 0] 42)) : Calls Try.prog 10 #[.pointer (some ⟨b, 0, none⟩)] w fun e w' => e = .returned (.bool true) ∧ GoX.Calm w w' := by
  have h := GoX.val_of1 K_ok (GoX.Tab.of_ng Try.prog 0 _) K_named (cs := [.ptr none, .sl none 0 (.exact 0), .bool false, .bool true, .int .i64 0]) (vs := [.pointer none, .slice none 0 0, .bool false, .bool true, .int .i64 0]) (v0 := .bool true) (x0 := .bool true) (fun _ => by simp [GoX.conc, GoX.concs, GoX.concSl, GoX.concP]) (fun _ => by simp [GoX.conc, GoX.concs, GoX.concSl, GoX.concP]) (overP_run) (xs := [.pointer (some ⟨b, 0, none⟩)]) (b := b) (by simp [GoX.concs, GoX.conc, GoX.concP, GoX.concSl]) w hb
  rwa [show K.P = Try.prog from GoX.Tab.of_P Try.prog 0 _] at h
theorem stepsN_run : (GoX.denJ K [] 100000 (fun n call ops => GoX.drawC K n call ops) 100 11).go [.ptr none] ⟨0, GoX.tabsT tabL⟩ (fun v _ => GoX.smV 64 v (.int .i64 0)) = true := by decide +kernel
theorem stepsN_c (w : World) (hl : ∀ x ∈ tabL, x.g < 0 ∧ x.lies w) : Calls Try.prog 11 #[.pointer none] w fun e w' => e = .returned (.int .i64 0) ∧ GoX.Calm w w' := by
  have h := GoX.val_ofT K_ok (GoX.Tab.of_ng Try.prog 0 _) K_named (v0 := .int .i64 0) (x0 := .int .i64 0) (fun _ => by simp [GoX.conc, GoX.concs, GoX.concSl, GoX.concP]) (stepsN_run) (xs := [.pointer none]) (by simp [GoX.concs, GoX.conc, GoX.concP, GoX.concSl]) w hl
  rwa [show K.P = Try.prog from GoX.Tab.of_P Try.prog 0 _] at h
theorem toN_run (x : Value) : (GoX.denJ K [] 100000 (fun n call ops => GoX.drawC K n call ops) 100 12).go [.ptr none, .opq x] ⟨0, GoX.tabsT tabL⟩ (fun v _ => GoX.smV 64 v (.bool false)) = true := by kernel_rfl
theorem toN_c (x : Value) (hx : x.oneCell' = true) (w : World) (hl : ∀ x ∈ tabL, x.g < 0 ∧ x.lies w) : Calls Try.prog 12 #[.pointer none, x] w fun e w' => e = .returned (.bool false) ∧ GoX.Calm w w' := by
  have h := GoX.val_ofT K_ok (GoX.Tab.of_ng Try.prog 0 _) K_named (v0 := .bool false) (x0 := .bool false) (fun _ => by simp [GoX.conc, GoX.concs, GoX.concSl, GoX.concP]) (toN_run x) (xs := [.pointer none, x]) (by simp [GoX.concs, GoX.conc, GoX.concP, GoX.concSl, hx]) w hl
  rwa [show K.P = Try.prog from GoX.Tab.of_P Try.prog 0 _] at h
theorem allN_run : (GoX.denJ K [] 100000 (fun n call ops => GoX.drawC K n call ops) 100 13).go [.ptr none, .int .i64 5] ⟨0, GoX.tabsT tabL⟩ (fun v _ => GoX.smV 64 v (.sl none 0 (.exact 0))) = true := by decide +kernel
theorem allN_c (w : World) (hl : ∀ x ∈ tabL, x.g < 0 ∧ x.lies w) : Calls Try.prog 13 #[.pointer none, .int .i64 5] w fun e w' => e = .returned (.slice none 0 0) ∧ GoX.Calm w w' := by
  have h := GoX.val_ofT K_ok (GoX.Tab.of_ng Try.prog 0 _) K_named (v0 := .sl none 0 (.exact 0)) (x0 := .slice none 0 0) (fun _ => by simp [GoX.conc, GoX.concs, GoX.concSl, GoX.concP]) (allN_run) (xs := [.pointer none, .int .i64 5]) (by simp [GoX.concs, GoX.conc, GoX.concP, GoX.concSl]) w hl
  rwa [show K.P = Try.prog from GoX.Tab.of_P Try.prog 0 _] at h
theorem nones : Nones :=
  ⟨fun w => stepN_c w (fun x hx => by cases hx), fun w => nextN_c w (fun x hx => by cases hx), fun w => firstN_c w (fun x hx => by cases hx), fun x hx w => behindN_c x hx w (fun x hx => by cases hx), fun b w h => nextP_c b w h, fun w => overN_c w (fun x hx => by cases hx),
    fun b w h => overP_c b w h, fun w => stepsN_c w (fun x hx => by cases hx), fun x hx w => toN_c x hx w (fun x hx => by cases hx), fun w => allN_c w (fun x hx => by cases hx), fun w => lives_c w (fun x hx => by cases hx)⟩
theorem walk (v : Value) (zs : List Int) (hz : zs.length ≤ maxLen) (_ : ∀ z ∈ zs, (Lit.int .i64 z).wf = true) (w : World) (_ : ∀ x ∈ tabL, x.g < 0 ∧ x.lies w) (hv : Holds w v (zs.map (Value.int .i64))) :
    Calls Try.prog 3 #[v] w fun e w' => e = .returned (.bool true) ∧ GoX.Calm w w' :=
  law_c v zs w hv (by unfold maxLen at hz; omega) nones

set_option maxRecDepth 100000 in
theorem contract (H : Type) (enc : TypeId × Value → H) (W : World) (base : Nat) (args : Array Value) (ds gs : List (DataW H)) (before : List MemPlace)
    (hval : ∀ (j : Nat) t v, Try.f3.params[j]? = some t → args[j]? = some v → Value.okWide Try.prog W .any base t v)
    (hW : DataW.Whole enc Try.prog Try.f3.params.toList Rows.eachNoneSpec.vars false W args.toList ds gs before) (hl : ∀ x ∈ tabL, x.g < 0 ∧ x.lies W) :
    Calls Try.prog 3 args W fun e W' => ∃ v, e = .returned v ∧ Rows.eachNoneSpec.post enc Try.prog Try.f3 false true false false W args v W' := by
  have hW' := hW
  obtain ⟨p, q, hA0, hV, rfl, hfz, hnd⟩ := hW
  have hA : DataW.TrodAll enc Try.prog W 0 (fun _ => true) true Try.f3.params.toList args.toList ds p := hA0
  rw [Try.params3] at hA hval
  obtain ⟨v0, vs0, d0, ds0, p0, q0, hargs, rfl, rfl, h0, r0⟩ := trodAll_cons hA
  obtain ⟨rfl, rfl, rfl⟩ := trodAll_nil r0
  obtain rfl : args = #[v0] := by cases args; simp_all
  obtain ⟨rfl, rfl⟩ := trodVars_none hV
  obtain ⟨zs0, n0, rfl, hh0, m0, wf0⟩ := open_row Try.underlying22 Try.underlying3 (by kernel_rfl) (hval 0 22 v0 rfl rfl) h0 (fun _ => rfl)
  refine (walk v0 zs0 m0 wf0 W hl hh0).mono fun e W' ⟨he, hg⟩ => ?_
  subst he
  exact ⟨_, rfl, GoX.post_of_calm (tb := 4) (by kernel_rfl) (by decide +kernel) Try.underlying4 (by kernel_rfl) rfl rfl hW' hg⟩

noncomputable def laidWorld (os : Os) : World := World.holding Try.prog os ⟨#[], #[], []⟩
theorem laid_met (os : Os) : laidMet Try.prog Rows.eachNoneRow.laid ((laidWorld os).forCall (fun _ _ => 0) ⟨#[], #[.slice none 0 0], []⟩).memory :=
  laidMet_of_run' 8 (by kernel_rfl) (by kernel_rfl)
theorem reads (os : Os) {H : Type} (enc : TypeId × Value → H) : ∃ places, DataW.whole enc Try.prog ((laidWorld os).forCall (fun _ _ => 0) ⟨#[], #[.slice none 0 0], []⟩).memory Try.f3.params.toList Rows.eachNoneSpec.vars false (#[.slice none 0 0] : Array Value).toList 8 = some ([.nil], [], places) :=
  ⟨[], by kernel_rfl⟩

set_option maxRecDepth 100000 in
theorem lifted (os : Os) (started : os.Started) (H : Type) (enc : TypeId × Value → H) (F : Stop.Interp) :
    ReturnsInHanded {} Try.checked os 3 .any ((OpenSpec.ofChange Rows.eachNoneSpec).preRow enc Try.prog Try.f3 Rows.eachNoneRow.domain false Rows.eachNoneRow.laid) (((OpenSpec.ofChange Rows.eachNoneSpec).at F).post enc Try.prog Try.f3 false true false false) := by
  obtain ⟨places, hx⟩ := reads os enc
  refine returnsInHanded_of_row (C := Try.checked) (s := OpenSpec.ofChange Rows.eachNoneSpec) own started (by kernel_rfl) Try.func3
    (witness_row_at (enc := enc) (C := Try.checked) false (laidWorld os) #[.slice none 0 0] rfl (by kernel_rfl) (by kernel_rfl) (by kernel_rfl)
      (OpenSpec.preRow_of_cond 8 hx (by kernel_rfl) (fun k hk => by cases hk) (by kernel_rfl) (laid_met os))) ?_
  intro W base args ds gs before hval hW _ _ _ _ _ _
  exact contract H enc W base args ds gs before hval hW (fun x hx => by cases hx)

/-- Whatever it is given, it answers true and leaves its arguments as they were. -/
theorem said : Rows.EachNoneSaid :=
  OpenClaim.holds_of_cond 3 Try.f3 rfl rfl rfl rfl rfl rfl rfl ⟨rfl, rfl, rfl, rfl, rfl⟩ rfl rfl rfl rfl rfl (by kernel_rfl) Try.func3 (by kernel_rfl)
    (of_decide_eq_true (by kernel_rfl)) (by unfold Func.isWrapper; first | (rw [if_pos (by decide +kernel)]; kernel_rfl) | (rw [if_neg (by decide +kernel)]; exact ⟨rfl, rfl⟩))
    (fun os started H enc _ F => by rw [OpenClaim.pre_eq_preRow]; exact lifted os started H enc F)

end Go.Proofs.Ytcobmmebnmegfaa.eachNone
