/-
  PROVED: whatever AutoMany of the module is given, it answers true, and its arguments read behind the call as they read before.
-/
import Derived.Test.YthjmgahgfkecfadRows
import Derived.WalkKit
import Derived.ProofKit
import Derived.OpenShut
import Derived.ChangeMaps5
import Derived.Deep.DeepHandedRow
import Derived.Lib.LaidTab
import Derived.Test.YthjmgahgfkecfadXCodeG
import Derived.Test.YthjmgahgfkecfadLies
import Derived.Test.YthjmgahgfkecfadManyLaw
namespace Go.Proofs.Ythjmgahgfkecfad.autoMany
open Go Go.ChangeShapes Go.WideShapes Go.ChangeAt Go.RowKit
open Go.ChangeMaps (open_string)

theorem own : ownKnob Try.prog.godebug = none := by kernel_rfl

/-! ### The run -/
noncomputable def K := GoX.Tab.of Try.prog 0 []
theorem K_ok : K.Ok := GoX.Tab.of_ok Try.prog 0 [] (by simp) (by decide +kernel)
theorem names : (Try.prog.funcs.toList.all fun fn => !(fn.name == "runtime.NumGoroutine")) = true := by decide +kernel
set_option maxRecDepth 100000 in
theorem K_named : ∀ (f : Nat) fn, K.P.funcs[f]? = some fn → (fn.name == "runtime.NumGoroutine") = false := fun f fn h => by
  have h2 := List.all_eq_true.1 names fn (by
    have : Try.prog.funcs[f]? = some fn := by rw [← show K.P = Try.prog from GoX.Tab.of_P Try.prog 0 []]; exact h
    exact List.mem_of_getElem? (by rw [Array.getElem?_toList]; exact this))
  simpa using h2
noncomputable def tabL : List GoX.TabL := []
set_option maxRecDepth 100000 in
theorem lives_run : (GoX.denJ K [] 100000 (fun n call ops => GoX.drawC K n call ops) 100 5).go [] ⟨0, GoX.tabsT tabL⟩ GoX.isTrue = true := by decide +kernel
theorem lives_c (w : World) (hl : ∀ x ∈ tabL, x.g < 0 ∧ x.lies w) : Calls Try.prog 5 #[] w fun e w' => e = .returned (.bool true) ∧ GoX.Calm w w' := by
  have h := GoX.true_ofT K_ok (GoX.Tab.of_ng Try.prog 0 []) K_named lives_run (xs := []) (by simp [GoX.concs]) w hl
  rwa [show K.P = Try.prog from GoX.Tab.of_P Try.prog 0 []] at h

theorem good_run : (GoX.denJ K [] 100000 (fun n call ops => GoX.drawC K n call ops) 100 6).go [.agg [.sl (some (0, 0)) 2 (.exact 2), .sl (some (2, 0)) 1 (.exact 1), .sl (some (3, 0)) 1 (.exact 1)]]
    ⟨4, GoX.lieT 0 [⟨[.str [97], .bool false, .str [98], .bool false], 24, 0⟩, ⟨[.int .i64 0, .int .i64 0], 3, 0⟩, ⟨[.sl (some (1, 0)) 2 (.exact 2)], 26, 0⟩, ⟨[.bool true], 4, 0⟩]⟩ (fun v _ => GoX.smV 64 v (.bool true)) = true := by decide +kernel
theorem ne_of {w : World} {b c : Nat} {x y : Array Value} {t u : TypeId} (h1 : w.heap[b]? = some (.cells x t)) (h2 : w.heap[c]? = some (.cells y u)) (ht : t ≠ u) : b ≠ c := fun e => by
  subst e
  rw [h1] at h2
  injection h2 with h2
  injection h2 with _ h2 _
  exact ht h2
theorem good_c (s r n a : Nat) (w : World) (h : Mem w s r n a) : Calls Try.prog 6 #[dV s n a] w fun e w' => e = .returned (.bool true) ∧ GoX.Calm w w' := by
  have h := GoX.val_ofL K_ok (GoX.Tab.of_ng Try.prog 0 _) K_named (l := [⟨[.str [97], .bool false, .str [98], .bool false], 24, s⟩, ⟨[.int .i64 0, .int .i64 0], 3, r⟩, ⟨[.sl (some (1, 0)) 2 (.exact 2)], 26, n⟩, ⟨[.bool true], 4, a⟩]) (v0 := .bool true) (x0 := .bool true) (fun _ => rfl) rfl rfl good_run (xs := [dV s n a])
    (by simp [GoX.concs, GoX.conc, GoX.concSl, GoX.concP, GoX.lieP, dV]) w (fun x hx => by
      simp only [List.mem_cons, List.not_mem_nil, or_false] at hx
      rcases hx with rfl | rfl | rfl | rfl
      · exact ⟨_, by simp [GoX.concs, GoX.conc], h.hs⟩
      · exact ⟨_, by simp [GoX.concs, GoX.conc], h.hr⟩
      · exact ⟨_, by simp [GoX.concs, GoX.conc, GoX.concSl, GoX.concP, GoX.lieP], h.hn⟩
      · exact ⟨_, by simp [GoX.concs, GoX.conc], h.ha⟩)
    (by simp [ne_of h.hs h.hr (by decide), ne_of h.hs h.hn (by decide), ne_of h.hs h.ha (by decide), ne_of h.hr h.hn (by decide), ne_of h.hr h.ha (by decide), ne_of h.hn h.ha (by decide)])
  rwa [show K.P = Try.prog from GoX.Tab.of_P Try.prog 0 _] at h
theorem walk (u : Int) (hu : (Lit.int .u16 u).wf = true) (w : World) (_hl : ∀ x ∈ tabL, x.g < 0 ∧ x.lies w) :
    Calls Try.prog 3 #[.int .u16 u] w fun e w' => e = .returned (.bool true) ∧ GoX.Calm w w' :=
  law_c u w (by simp [Lit.wf, IntKind.min, IntKind.max, IntKind.signed, IntKind.bits] at hu; omega) (by simp [Lit.wf, IntKind.min, IntKind.max, IntKind.signed, IntKind.bits] at hu; omega) good_c fun x => lives_c x fun y hy => by cases hy

set_option maxRecDepth 100000 in
theorem contract (H : Type) (enc : TypeId × Value → H) (W : World) (base : Nat) (args : Array Value) (ds gs : List (DataW H)) (before : List MemPlace)
    (hval : ∀ (j : Nat) t v, Try.f3.params[j]? = some t → args[j]? = some v → Value.okWide Try.prog W .any base t v)
    (hW : DataW.Whole enc Try.prog Try.f3.params.toList Rows.autoManySpec.vars false W args.toList ds gs before) (hl : ∀ x ∈ tabL, x.g < 0 ∧ x.lies W) :
    Calls Try.prog 3 args W fun e W' => ∃ v, e = .returned v ∧ Rows.autoManySpec.post enc Try.prog Try.f3 false true false false W args v W' := by
  have hW' := hW
  obtain ⟨p, q, hA0, hV, rfl, hfz, hnd⟩ := hW
  have hA : DataW.TrodAll enc Try.prog W 0 (fun _ => true) true Try.f3.params.toList args.toList ds p := hA0
  rw [Try.params3] at hA hval
  obtain ⟨v0, vs0, d0, ds0, p0, q0, hargs, rfl, rfl, h0, r0⟩ := trodAll_cons hA
  obtain ⟨rfl, rfl, rfl⟩ := trodAll_nil r0
  obtain rfl : args = #[v0] := by cases args; simp_all
  obtain ⟨rfl, rfl⟩ := trodVars_none hV
  obtain ⟨a0, rfl, _, _, w0⟩ := open_int Try.underlying22 (hval 0 22 v0 rfl rfl) h0
  refine (walk a0 w0 W hl).mono fun e W' ⟨he, hg⟩ => ?_
  subst he
  exact ⟨_, rfl, GoX.post_of_calm (tb := 4) (by kernel_rfl) (by decide +kernel) Try.underlying4 (by kernel_rfl) rfl rfl hW' hg⟩

noncomputable def laidWorld (os : Os) : World := World.holding Try.prog os ⟨#[], #[], []⟩
theorem laid_met (os : Os) : laidMet Try.prog Rows.autoManyRow.laid ((laidWorld os).forCall (fun _ _ => 0) ⟨#[], #[.int .u16 0], []⟩).memory :=
  laidMet_of_run' 8 (by kernel_rfl) (by kernel_rfl)
theorem reads (os : Os) {H : Type} (enc : TypeId × Value → H) : ∃ places, DataW.whole enc Try.prog ((laidWorld os).forCall (fun _ _ => 0) ⟨#[], #[.int .u16 0], []⟩).memory Try.f3.params.toList Rows.autoManySpec.vars false (#[.int .u16 0] : Array Value).toList 8 = some ([.lit (.int .u16 0)], [], places) :=
  ⟨[], by kernel_rfl⟩

set_option maxRecDepth 100000 in
theorem lifted (os : Os) (started : os.Started) (H : Type) (enc : TypeId × Value → H) (F : Stop.Interp) :
    ReturnsInHanded {} Try.checked os 3 .any ((OpenSpec.ofChange Rows.autoManySpec).preRow enc Try.prog Try.f3 Rows.autoManyRow.domain false Rows.autoManyRow.laid) (((OpenSpec.ofChange Rows.autoManySpec).at F).post enc Try.prog Try.f3 false true false false) := by
  obtain ⟨places, hx⟩ := reads os enc
  refine returnsInHanded_of_row (C := Try.checked) (s := OpenSpec.ofChange Rows.autoManySpec) own started (by kernel_rfl) Try.func3
    (witness_row_at (enc := enc) (C := Try.checked) false (laidWorld os) #[.int .u16 0] rfl (by kernel_rfl) (by kernel_rfl) (by kernel_rfl)
      (OpenSpec.preRow_of_cond 8 hx (by kernel_rfl) (fun k hk => by cases hk) (by kernel_rfl) (laid_met os))) ?_
  intro W base args ds gs before hval hW _ _ _ _ _ _
  exact contract H enc W base args ds gs before hval hW (fun x hx => by cases hx)

/-- Whatever it is given, it answers true and leaves its arguments as they were. -/
theorem said : Rows.AutoManySaid :=
  OpenClaim.holds_of_cond 3 Try.f3 rfl rfl rfl rfl rfl rfl rfl ⟨rfl, rfl, rfl, rfl, rfl⟩ rfl rfl rfl rfl rfl (by kernel_rfl) Try.func3 (by kernel_rfl)
    (of_decide_eq_true (by kernel_rfl)) (by unfold Func.isWrapper; first | (rw [if_pos (by decide +kernel)]; kernel_rfl) | (rw [if_neg (by decide +kernel)]; exact ⟨rfl, rfl⟩))
    (fun os started H enc _ F => by rw [OpenClaim.pre_eq_preRow]; exact lifted os started H enc F)

end Go.Proofs.Ythjmgahgfkecfad.autoMany
