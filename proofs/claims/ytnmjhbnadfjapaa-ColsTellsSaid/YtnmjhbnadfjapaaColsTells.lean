/-
  PROVED: whatever ColsTells of the module is given, it answers true, and its arguments read behind the call as they read before.
-/
import Derived.Test.YtnmjhbnadfjapaaRows
import Derived.WalkKit
import Derived.ProofKit
import Derived.OpenShut
import Derived.ChangeMaps5
import Derived.Deep.DeepHandedRow
import Derived.Lib.LaidTab
import Derived.Test.YtnmjhbnadfjapaaXCodeG
import Derived.Test.YtnmjhbnadfjapaaCTLaw
namespace Go.Proofs.Ytnmjhbnadfjapaa.colsTells
open Go Go.ChangeShapes Go.WideShapes Go.ChangeAt Go.RowKit
open Go.ChangeMaps (open_string)

theorem own : ownKnob Try.prog.godebug = none := by kernel_rfl

/-! ### The run -/
noncomputable def K := GoX.Tab.of Try.prog 0 [27]
theorem K_ok : K.Ok := GoX.Tab.of_ok Try.prog 0 [27] (by decide +kernel) (by decide +kernel)
theorem names : (Try.prog.funcs.toList.all fun fn => !(fn.name == "runtime.NumGoroutine")) = true := by decide +kernel
set_option maxRecDepth 100000 in
theorem K_named : ∀ (f : Nat) fn, K.P.funcs[f]? = some fn → (fn.name == "runtime.NumGoroutine") = false := fun f fn h => by
  have h2 := List.all_eq_true.1 names fn (by
    have : Try.prog.funcs[f]? = some fn := by rw [← show K.P = Try.prog from GoX.Tab.of_P Try.prog 0 [27]]; exact h
    exact List.mem_of_getElem? (by rw [Array.getElem?_toList]; exact this))
  simpa using h2
noncomputable def tabL : List GoX.TabL := []
set_option maxRecDepth 100000 in
theorem lives_run : (GoX.denJ K [] 100000 (fun n call ops => GoX.drawC K n call ops) 100 12).go [] ⟨0, GoX.tabsT tabL⟩ GoX.isTrue = true := by decide +kernel
theorem lives_c (w : World) (hl : ∀ x ∈ tabL, x.g < 0 ∧ x.lies w) : Calls Try.prog 12 #[] w fun e w' => e = .returned (.bool true) ∧ GoX.Calm w w' := by
  have h := GoX.true_ofT K_ok (GoX.Tab.of_ng Try.prog 0 [27]) K_named lives_run (xs := []) (by simp [GoX.concs]) w hl
  rwa [show K.P = Try.prog from GoX.Tab.of_P Try.prog 0 [27]] at h

theorem lies_calm {x : GoX.TabL} {w w' : World} (h : x.lies w) (hc : GoX.Calm w w') : x.lies w' := (hc.block x.g (Array.getElem?_eq_some_iff.1 h).1).trans h
theorem walk (g : Gr) (nv ev : Value) (wf : g.wf) (q0 : Int) (q1 q2 : ByteArray) (q3 vk vn : Int) (v0 : ByteArray) (w : World) (hl : ∀ x ∈ tabL, x.g < 0 ∧ x.lies w) (hg : HoldsG w nv ev g) :
    Calls Try.prog 3 #[.agg #[nv, ev], .agg #[.int .i64 q0, .string q1, .string q2, .int .i64 q3, .int .i64 vk, .int .i64 vn, .string v0]] w fun e w' => e = .returned (.bool true) ∧ GoX.Calm w w' :=
  lawCT_c g nv ev q0 q1 q2 q3 vk vn v0 w hg wf fun x hB => lives_c x fun y hy => ⟨(hl y hy).1, lies_calm (hl y hy).2 hB⟩

set_option maxRecDepth 100000 in
theorem contract (H : Type) (enc : TypeId × Value → H) (W : World) (base : Nat) (args : Array Value) (ds gs : List (DataW H)) (before : List MemPlace)
    (hval : ∀ (j : Nat) t v, Try.f3.params[j]? = some t → args[j]? = some v → Value.okWide Try.prog W .any base t v)
    (hW : DataW.Whole enc Try.prog Try.f3.params.toList Rows.colsTellsSpec.vars false W args.toList ds gs before) (hl : ∀ x ∈ tabL, x.g < 0 ∧ x.lies W) :
    Calls Try.prog 3 args W fun e W' => ∃ v, e = .returned v ∧ Rows.colsTellsSpec.post enc Try.prog Try.f3 false true false false W args v W' := by
  have hW' := hW
  obtain ⟨p, q, hA0, hV, rfl, hfz, hnd⟩ := hW
  have hA : DataW.TrodAll enc Try.prog W 0 (fun _ => true) true Try.f3.params.toList args.toList ds p := hA0
  rw [Try.params3] at hA hval
  obtain ⟨v0, vs0, d0, ds0, p0, q0, hargs, rfl, rfl, h0, r0⟩ := trodAll_cons hA
  obtain ⟨v1, vs1, d1, ds1, p1, q1, rfl, rfl, rfl, h1, r1⟩ := trodAll_cons r0
  obtain ⟨rfl, rfl, rfl⟩ := trodAll_nil r1
  obtain rfl : args = #[v0, v1] := by cases args; simp_all
  obtain ⟨rfl, rfl⟩ := trodVars_none hV
  obtain ⟨y0, nv0, ev0, rfl, hh0, wf0⟩ := open_graph Try.underlying25 Try.underlying22 Try.underlying23 Try.underlying44 Try.underlying42 Try.underlying83 Try.underlying27 Try.underlying85 (by kernel_rfl) (by kernel_rfl) (by kernel_rfl) (by kernel_rfl) (by kernel_rfl) (by kernel_rfl) (by kernel_rfl) (by kernel_rfl) (by kernel_rfl) (by kernel_rfl) (by kernel_rfl) (by kernel_rfl) (by kernel_rfl) (by kernel_rfl) (by kernel_rfl) (by kernel_rfl) (by kernel_rfl) (by kernel_rfl) (by kernel_rfl) (by kernel_rfl) (by kernel_rfl) (by kernel_rfl) (by kernel_rfl) (by kernel_rfl) (by kernel_rfl) (by kernel_rfl) (by kernel_rfl) (by kernel_rfl) (by kernel_rfl) (by kernel_rfl) (by kernel_rfl) (by kernel_rfl) (by kernel_rfl) (by kernel_rfl) (by kernel_rfl) (by kernel_rfl) (by kernel_rfl) (by kernel_rfl) (by kernel_rfl) (by kernel_rfl) (hval 0 25 v0 rfl rfl) h0
  obtain ⟨ts1, hts1, hlen1⟩ : ∃ ts, Try.prog.cellTypes Try.prog.depth 29 = some ts ∧ ts = [3, 9, 9, 3, 3, 3, 9] := ⟨_, by kernel_rfl, rfl⟩
  obtain ⟨l1, n1, rfl, c1, u1⟩ := GoX.arg_typed (n := 7) (by kernel_rfl) (by kernel_rfl) hts1 (by rw [hlen1]; rfl) (hval 1 29 v1 rfl rfl)
  subst hlen1
  obtain ⟨y1_0, y1_1, y1_2, y1_3, y1_4, y1_5, y1_6, rfl⟩ : ∃ y1_0 y1_1 y1_2 y1_3 y1_4 y1_5 y1_6, l1 = [y1_0, y1_1, y1_2, y1_3, y1_4, y1_5, y1_6] := by
    match l1, n1 with
    | [y1_0, y1_1, y1_2, y1_3, y1_4, y1_5, y1_6], _ => exact ⟨y1_0, y1_1, y1_2, y1_3, y1_4, y1_5, y1_6, rfl⟩
  obtain ⟨u, hu, hc⟩ := u1 0 y1_0 rfl
  cases hu
  obtain ⟨n1_0, rfl⟩ := GoX.cell_int (P := Try.prog) Try.underlying3 hc
  obtain ⟨u, hu, hc⟩ := u1 1 y1_1 rfl
  cases hu
  obtain ⟨s1_1, rfl⟩ := cell_str (P := Try.prog) Try.underlying9 hc
  obtain ⟨u, hu, hc⟩ := u1 2 y1_2 rfl
  cases hu
  obtain ⟨s1_2, rfl⟩ := cell_str (P := Try.prog) Try.underlying9 hc
  obtain ⟨u, hu, hc⟩ := u1 3 y1_3 rfl
  cases hu
  obtain ⟨n1_3, rfl⟩ := GoX.cell_int (P := Try.prog) Try.underlying3 hc
  obtain ⟨u, hu, hc⟩ := u1 4 y1_4 rfl
  cases hu
  obtain ⟨n1_4, rfl⟩ := GoX.cell_int (P := Try.prog) Try.underlying3 hc
  obtain ⟨u, hu, hc⟩ := u1 5 y1_5 rfl
  cases hu
  obtain ⟨n1_5, rfl⟩ := GoX.cell_int (P := Try.prog) Try.underlying3 hc
  obtain ⟨u, hu, hc⟩ := u1 6 y1_6 rfl
  cases hu
  obtain ⟨s1_6, rfl⟩ := cell_str (P := Try.prog) Try.underlying9 hc
  refine (walk y0 nv0 ev0 wf0 n1_0 s1_1 s1_2 n1_3 n1_4 n1_5 s1_6 W hl hh0).mono fun e W' ⟨he, hg⟩ => ?_
  subst he
  exact ⟨_, rfl, GoX.post_of_calm (tb := 4) (by kernel_rfl) (by decide +kernel) Try.underlying4 (by kernel_rfl) rfl rfl hW' hg⟩

noncomputable def laidWorld (os : Os) : World := World.holding Try.prog os ⟨#[], #[], []⟩
theorem laid_met (os : Os) : laidMet Try.prog Rows.colsTellsRow.laid ((laidWorld os).forCall (fun _ _ => 0) ⟨#[], #[.agg #[.slice none 0 0, .slice none 0 0], .agg #[.int .i64 0, .string .empty, .string .empty, .int .i64 0, .int .i64 0, .int .i64 0, .string .empty]], []⟩).memory :=
  laidMet_of_run' 8 (by kernel_rfl) (by kernel_rfl)
theorem reads (os : Os) {H : Type} (enc : TypeId × Value → H) : ∃ places, DataW.whole enc Try.prog ((laidWorld os).forCall (fun _ _ => 0) ⟨#[], #[.agg #[.slice none 0 0, .slice none 0 0], .agg #[.int .i64 0, .string .empty, .string .empty, .int .i64 0, .int .i64 0, .int .i64 0, .string .empty]], []⟩).memory Try.f3.params.toList Rows.colsTellsSpec.vars false (#[.agg #[.slice none 0 0, .slice none 0 0], .agg #[.int .i64 0, .string .empty, .string .empty, .int .i64 0, .int .i64 0, .int .i64 0, .string .empty]] : Array Value).toList 8 = some ([.agg [.nil, .nil], .agg [.lit (.int .i64 0), .lit (.string []), .lit (.string []), .lit (.int .i64 0), .agg [.lit (.int .i64 0), .lit (.int .i64 0), .lit (.string [])]]], [], places) :=
  ⟨[], by kernel_rfl⟩

set_option maxRecDepth 100000 in
theorem lifted (os : Os) (started : os.Started) (H : Type) (enc : TypeId × Value → H) (F : Stop.Interp) :
    ReturnsInHanded {} Try.checked os 3 .any ((OpenSpec.ofChange Rows.colsTellsSpec).preRow enc Try.prog Try.f3 Rows.colsTellsRow.domain false Rows.colsTellsRow.laid) (((OpenSpec.ofChange Rows.colsTellsSpec).at F).post enc Try.prog Try.f3 false true false false) := by
  obtain ⟨places, hx⟩ := reads os enc
  refine returnsInHanded_of_row (C := Try.checked) (s := OpenSpec.ofChange Rows.colsTellsSpec) own started (by kernel_rfl) Try.func3
    (witness_row_at (enc := enc) (C := Try.checked) false (laidWorld os) #[.agg #[.slice none 0 0, .slice none 0 0], .agg #[.int .i64 0, .string .empty, .string .empty, .int .i64 0, .int .i64 0, .int .i64 0, .string .empty]] rfl (by kernel_rfl) (by kernel_rfl) (by kernel_rfl)
      (OpenSpec.preRow_of_cond 8 hx (by kernel_rfl) (fun k hk => by cases hk) (by kernel_rfl) (laid_met os))) ?_
  intro W base args ds gs before hval hW _ _ _ _ _ _
  exact contract H enc W base args ds gs before hval hW (fun x hx => by cases hx)

/-- Whatever it is given, it answers true and leaves its arguments as they were. -/
theorem said : Rows.ColsTellsSaid :=
  OpenClaim.holds_of_cond 3 Try.f3 rfl rfl rfl rfl rfl rfl rfl ⟨rfl, rfl, rfl, rfl, rfl⟩ rfl rfl rfl rfl rfl (by kernel_rfl) Try.func3 (by kernel_rfl)
    (of_decide_eq_true (by kernel_rfl)) (by unfold Func.isWrapper; first | (rw [if_pos (by decide +kernel)]; kernel_rfl) | (rw [if_neg (by decide +kernel)]; exact ⟨rfl, rfl⟩))
    (fun os started H enc _ F => by rw [OpenClaim.pre_eq_preRow]; exact lifted os started H enc F)

end Go.Proofs.Ytnmjhbnadfjapaa.colsTells
