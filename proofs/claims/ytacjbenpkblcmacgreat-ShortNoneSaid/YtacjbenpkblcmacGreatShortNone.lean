/-
  PROVED: whatever ShortNone of the module is given, it answers true, and its arguments read behind the call as they read before.
-/
import Derived.Test.YtacjbenpkblcmacGreatRows
import Derived.WalkKit
import Derived.ProofKit
import Derived.OpenShut
import Derived.ChangeMaps5
import Derived.Deep.DeepHandedRow
import Derived.Lib.LaidTab
import Derived.Test.YtacjbenpkblcmacGreatXCodeG
namespace Go.Proofs.YtacjbenpkblcmacGreat.shortNone
open Go Go.ChangeShapes Go.WideShapes Go.ChangeAt Go.RowKit
open Go.ChangeMaps (open_string)

theorem own : ownKnob Tryz.prog.godebug = none := by kernel_rfl

/-! ### The run -/
noncomputable def K := GoX.Tab.of Tryz.prog 0 [147]
theorem K_ok : K.Ok := GoX.Tab.of_ok Tryz.prog 0 [147] (by decide +kernel) (by decide +kernel)
theorem names : (Tryz.prog.funcs.toList.all fun fn => !(fn.name == "runtime.NumGoroutine")) = true := by decide +kernel
theorem K_named : ∀ (f : Nat) fn, K.P.funcs[f]? = some fn → (fn.name == "runtime.NumGoroutine") = false := fun f fn h => by
  have h2 := List.all_eq_true.1 names fn (by
    have : Tryz.prog.funcs[f]? = some fn := by rw [← GoX.Tab.of_P Tryz.prog 0 [147]]; exact h
    exact List.mem_of_getElem? (by rw [Array.getElem?_toList]; exact this))
  simpa using h2
noncomputable def tabL : List GoX.TabL := []
theorem run (x0_0 : Value) (x0_1 : Value) (x0_2 : Value) : (GoX.denJ K [] 100000 (fun n call ops => GoX.drawC K n call ops) 100 3).go [.agg [.opq x0_0, .opq x0_1, .opq x0_2]] ⟨0, GoX.tabsT tabL⟩ GoX.isTrue = true := by kernel_rfl
theorem walk (v0_0 : Value) (h0_0 : v0_0.oneCell' = true) (v0_1 : Value) (h0_1 : v0_1.oneCell' = true) (v0_2 : Value) (h0_2 : v0_2.oneCell' = true) (w : World) (hl : ∀ x ∈ tabL, x.g < 0 ∧ x.lies w) : Calls Tryz.prog 3 #[.agg #[v0_0, v0_1, v0_2]] w fun e w' => e = .returned (.bool true) ∧ GoX.Calm w w' := by
  have h := GoX.true_ofT K_ok (GoX.Tab.of_ng Tryz.prog 0 [147]) K_named (run v0_0 v0_1 v0_2) (xs := [.agg #[v0_0, v0_1, v0_2]]) (by simp [GoX.concs, GoX.conc, h0_0, h0_1, h0_2]) w hl
  rwa [show K.P = Tryz.prog from GoX.Tab.of_P Tryz.prog 0 [147]] at h

set_option maxRecDepth 100000 in
theorem contract (H : Type) (enc : TypeId × Value → H) (W : World) (base : Nat) (args : Array Value) (ds gs : List (DataW H)) (before : List MemPlace)
    (hval : ∀ (j : Nat) t v, Tryz.f3.params[j]? = some t → args[j]? = some v → Value.okWide Tryz.prog W .any base t v)
    (hW : DataW.Whole enc Tryz.prog Tryz.f3.params.toList Rows.shortNoneSpec.vars false W args.toList ds gs before) (hl : ∀ x ∈ tabL, x.g < 0 ∧ x.lies W) :
    Calls Tryz.prog 3 args W fun e W' => ∃ v, e = .returned v ∧ Rows.shortNoneSpec.post enc Tryz.prog Tryz.f3 false true false false W args v W' := by
  have hW' := hW
  obtain ⟨p, q, hA0, hV, rfl, hfz, hnd⟩ := hW
  have hA : DataW.TrodAll enc Tryz.prog W 0 (fun _ => true) true Tryz.f3.params.toList args.toList ds p := hA0
  rw [Tryz.params3] at hA hval
  obtain ⟨v0, vs0, d0, ds0, p0, q0, hargs, rfl, rfl, h0, r0⟩ := trodAll_cons hA
  obtain ⟨rfl, rfl, rfl⟩ := trodAll_nil r0
  obtain rfl : args = #[v0] := by cases args; simp_all
  obtain ⟨rfl, rfl⟩ := trodVars_none hV
  obtain ⟨ts0, hts0, hlen0⟩ : ∃ ts, Tryz.prog.cellTypes Tryz.prog.depth 23 = some ts ∧ ts = [3, 3, 3] := ⟨_, by kernel_rfl, rfl⟩
  obtain ⟨l0, n0, rfl, c0, u0⟩ := GoX.arg_typed (n := 3) (by kernel_rfl) (by kernel_rfl) hts0 (by rw [hlen0]; rfl) (hval 0 23 v0 rfl rfl)
  subst hlen0
  obtain ⟨y0_0, y0_1, y0_2, rfl⟩ : ∃ y0_0 y0_1 y0_2, l0 = [y0_0, y0_1, y0_2] := by
    match l0, n0 with
    | [y0_0, y0_1, y0_2], _ => exact ⟨y0_0, y0_1, y0_2, rfl⟩
  refine (walk y0_0 (c0 _ (by simp)) y0_1 (c0 _ (by simp)) y0_2 (c0 _ (by simp)) W hl).mono fun e W' ⟨he, hg⟩ => ?_
  subst he
  exact ⟨_, rfl, GoX.post_of_calm (tb := 4) (by kernel_rfl) (by decide +kernel) Tryz.underlying4 (by kernel_rfl) rfl rfl hW' hg⟩

noncomputable def laidWorld (os : Os) : World := World.holding Tryz.prog os ⟨#[], #[], []⟩
theorem laid_met (os : Os) : laidMet Tryz.prog Rows.shortNoneRow.laid ((laidWorld os).forCall (fun _ _ => 0) ⟨#[], #[.agg #[.int .i64 0, .int .i64 0, .int .i64 0]], []⟩).memory :=
  laidMet_of_run' 8 (by kernel_rfl) (by kernel_rfl)
theorem reads (os : Os) {H : Type} (enc : TypeId × Value → H) : ∃ places, DataW.whole enc Tryz.prog ((laidWorld os).forCall (fun _ _ => 0) ⟨#[], #[.agg #[.int .i64 0, .int .i64 0, .int .i64 0]], []⟩).memory Tryz.f3.params.toList Rows.shortNoneSpec.vars false (#[.agg #[.int .i64 0, .int .i64 0, .int .i64 0]] : Array Value).toList 8 = some ([.agg [.lit (.int .i64 0), .lit (.int .i64 0), .lit (.int .i64 0)]], [], places) :=
  ⟨[], by kernel_rfl⟩

set_option maxRecDepth 100000 in
theorem lifted (os : Os) (started : os.Started) (H : Type) (enc : TypeId × Value → H) (F : Stop.Interp) :
    ReturnsInHanded {} Tryz.checked os 3 .any ((OpenSpec.ofChange Rows.shortNoneSpec).preRow enc Tryz.prog Tryz.f3 Rows.shortNoneRow.domain false Rows.shortNoneRow.laid) (((OpenSpec.ofChange Rows.shortNoneSpec).at F).post enc Tryz.prog Tryz.f3 false true false false) := by
  obtain ⟨places, hx⟩ := reads os enc
  refine returnsInHanded_of_row (C := Tryz.checked) (s := OpenSpec.ofChange Rows.shortNoneSpec) own started (by kernel_rfl) Tryz.func3
    (witness_row_at (enc := enc) (C := Tryz.checked) false (laidWorld os) #[.agg #[.int .i64 0, .int .i64 0, .int .i64 0]] rfl (by kernel_rfl) (by kernel_rfl) (by kernel_rfl)
      (OpenSpec.preRow_of_cond 8 hx (by kernel_rfl) (fun k hk => by cases hk) (by kernel_rfl) (laid_met os))) ?_
  intro W base args ds gs before hval hW _ _ _ _ _ _
  exact contract H enc W base args ds gs before hval hW (fun x hx => by cases hx)

/-- Whatever it is given, it answers true and leaves its arguments as they were. -/
theorem said : Rows.ShortNoneSaid :=
  OpenClaim.holds_of_cond 3 Tryz.f3 rfl rfl rfl rfl rfl rfl rfl ⟨rfl, rfl, rfl, rfl, rfl⟩ rfl rfl rfl rfl rfl (by kernel_rfl) Tryz.func3 (by kernel_rfl)
    (of_decide_eq_true (by kernel_rfl)) (by unfold Func.isWrapper; first | (rw [if_pos (by decide +kernel)]; kernel_rfl) | (rw [if_neg (by decide +kernel)]; exact ⟨rfl, rfl⟩))
    (fun os started H enc _ F => by rw [OpenClaim.pre_eq_preRow]; exact lifted os started H enc F)

end Go.Proofs.YtacjbenpkblcmacGreat.shortNone
