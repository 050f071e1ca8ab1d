/-
  PROVED: whatever ProductWalks of the module is given, it answers true, and its arguments read behind the call as they read before.
-/
import Derived.Test.YtfkcopokeofjoaaGreatRows
import Derived.WalkKit
import Derived.ProofKit
import Derived.OpenShut
import Derived.ChangeMaps5
import Derived.Deep.DeepHandedRow
import Derived.Lib.LaidTab
import Derived.Test.YtfkcopokeofjoaaGreatXCodeG
import Derived.Test.YtfkcopokeofjoaaGreatPWLaw
namespace Go.Proofs.YtfkcopokeofjoaaGreat.productWalks
open Go Go.ChangeShapes Go.WideShapes Go.ChangeAt Go.RowKit
open Go.ChangeMaps (open_string)

theorem own : ownKnob Tryz.prog.godebug = none := by kernel_rfl

/-! ### The run -/
noncomputable def K := GoX.Tab.of Tryz.prog 0 []
theorem K_ok : K.Ok := GoX.Tab.of_ok Tryz.prog 0 [] (by simp) (by decide +kernel)
theorem names : (Tryz.prog.funcs.toList.all fun fn => !(fn.name == "runtime.NumGoroutine")) = true := by decide +kernel
set_option maxRecDepth 100000 in
theorem K_named : ∀ (f : Nat) fn, K.P.funcs[f]? = some fn → (fn.name == "runtime.NumGoroutine") = false := fun f fn h => by
  have h2 := List.all_eq_true.1 names fn (by
    have : Tryz.prog.funcs[f]? = some fn := by rw [← show K.P = Tryz.prog from GoX.Tab.of_P Tryz.prog 0 []]; exact h
    exact List.mem_of_getElem? (by rw [Array.getElem?_toList]; exact this))
  simpa using h2
noncomputable def tabL : List GoX.TabL := []
set_option maxRecDepth 100000 in
theorem lives_run : (GoX.denO K orcT [36] 100000 (fun n call ops => GoX.drawC K n call ops) 100 10).go [] ⟨0, GoX.tabsT tabL⟩ GoX.isTrue = true := by decide +kernel
theorem lives_c (w : World) (hl : ∀ x ∈ tabL, x.g < 0 ∧ x.lies w) : Calls Tryz.prog 10 #[] w fun e w' => e = .returned (.bool true) ∧ GoX.Calm w w' := by
  have h := GoX.true_ofO K_ok (GoX.Tab.of_ng Tryz.prog 0 []) K_named (orcT_good (GoX.Tab.of_P Tryz.prog 0 [])) lives_run (xs := []) (by simp [GoX.concs]) w hl
  rwa [show K.P = Tryz.prog from GoX.Tab.of_P Tryz.prog 0 []] at h

theorem lies_calm {x : GoX.TabL} {w w' : World} (h : x.lies w) (hc : GoX.Calm w w') : x.lies w' := (hc.block x.g (Array.getElem?_eq_some_iff.1 h).1).trans h
theorem walk (g : Gr) (nv ev : Value) (wf : g.wf) (n : Int) (_wn : (Lit.int .i64 n).wf = true) (v : Value) (ps : List Hop) (hp : ps.length ≤ maxLen) (_wp : ∀ p ∈ ps, p.wf) (w : World) (hl : ∀ x ∈ tabL, x.g < 0 ∧ x.lies w) (hg : HoldsG w nv ev g) (hv : HoldsR hopR w v ps) :
    Calls Tryz.prog 3 #[.agg #[nv, ev], .int .i64 n, v] w fun e w' => e = .returned (.bool true) ∧ GoX.Calm w w' :=
  lawPW_c g nv ev n v ps w hg wf hv hp fun x hB => lives_c x fun y hy => ⟨(hl y hy).1, lies_calm (hl y hy).2 hB⟩

set_option maxRecDepth 100000 in
theorem contract (H : Type) (enc : TypeId × Value → H) (W : World) (base : Nat) (args : Array Value) (ds gs : List (DataW H)) (before : List MemPlace)
    (hval : ∀ (j : Nat) t v, Tryz.f3.params[j]? = some t → args[j]? = some v → Value.okWide Tryz.prog W .any base t v)
    (hW : DataW.Whole enc Tryz.prog Tryz.f3.params.toList Rows.productWalksSpec.vars false W args.toList ds gs before) (hl : ∀ x ∈ tabL, x.g < 0 ∧ x.lies W) :
    Calls Tryz.prog 3 args W fun e W' => ∃ v, e = .returned v ∧ Rows.productWalksSpec.post enc Tryz.prog Tryz.f3 false true false false W args v W' := by
  have hW' := hW
  obtain ⟨p, q, hA0, hV, rfl, hfz, hnd⟩ := hW
  have hA : DataW.TrodAll enc Tryz.prog W 0 (fun _ => true) true Tryz.f3.params.toList args.toList ds p := hA0
  rw [Tryz.params3] at hA hval
  obtain ⟨v0, vs0, d0, ds0, p0, q0, hargs, rfl, rfl, h0, r0⟩ := trodAll_cons hA
  obtain ⟨v1, vs1, d1, ds1, p1, q1, rfl, rfl, rfl, h1, r1⟩ := trodAll_cons r0
  obtain ⟨v2, vs2, d2, ds2, p2, q2, rfl, rfl, rfl, h2, r2⟩ := trodAll_cons r1
  obtain ⟨rfl, rfl, rfl⟩ := trodAll_nil r2
  obtain rfl : args = #[v0, v1, v2] := by cases args; simp_all
  obtain ⟨rfl, rfl⟩ := trodVars_none hV
  obtain ⟨y0, nv0, ev0, rfl, hh0, wf0⟩ := open_graph Tryz.underlying25 Tryz.underlying22 Tryz.underlying23 Tryz.underlying56 Tryz.underlying54 Tryz.underlying60 Tryz.underlying58 Tryz.underlying63 (by kernel_rfl) (by kernel_rfl) (by kernel_rfl) (by kernel_rfl) (by kernel_rfl) (by kernel_rfl) (by kernel_rfl) (by kernel_rfl) (by kernel_rfl) (by kernel_rfl) (by kernel_rfl) (by kernel_rfl) (by kernel_rfl) (by kernel_rfl) (by kernel_rfl) (by kernel_rfl) (by kernel_rfl) (by kernel_rfl) (by kernel_rfl) (by kernel_rfl) (by kernel_rfl) (by kernel_rfl) (by kernel_rfl) (by kernel_rfl) (by kernel_rfl) (by kernel_rfl) (by kernel_rfl) (by kernel_rfl) (by kernel_rfl) (by kernel_rfl) (by kernel_rfl) (by kernel_rfl) (by kernel_rfl) (by kernel_rfl) (by kernel_rfl) (by kernel_rfl) (by kernel_rfl) (by kernel_rfl) (by kernel_rfl) (by kernel_rfl) (hval 0 25 v0 rfl rfl) h0
  obtain ⟨a1, rfl, _, _, w1⟩ := open_int Tryz.underlying3 (hval 1 3 v1 rfl rfl) h1
  obtain ⟨zs2, m2, hh2, wf2⟩ := open_hopsR Tryz.underlying26 Tryz.underlying45 (by kernel_rfl) (by kernel_rfl) (by kernel_rfl) (by kernel_rfl) (by kernel_rfl) (by kernel_rfl) (by kernel_rfl) (hval 2 26 v2 rfl rfl) h2
  refine (walk y0 nv0 ev0 wf0 a1 w1 v2 zs2 m2 wf2 W hl hh0 hh2).mono fun e W' ⟨he, hg⟩ => ?_
  subst he
  exact ⟨_, rfl, GoX.post_of_calm (tb := 4) (by kernel_rfl) (by decide +kernel) Tryz.underlying4 (by kernel_rfl) rfl rfl hW' hg⟩

noncomputable def laidWorld (os : Os) : World := World.holding Tryz.prog os ⟨#[], #[], []⟩
theorem laid_met (os : Os) : laidMet Tryz.prog Rows.productWalksRow.laid ((laidWorld os).forCall (fun _ _ => 0) ⟨#[], #[.agg #[.slice none 0 0, .slice none 0 0], .int .i64 0, .slice none 0 0], []⟩).memory :=
  laidMet_of_run' 8 (by kernel_rfl) (by kernel_rfl)
theorem reads (os : Os) {H : Type} (enc : TypeId × Value → H) : ∃ places, DataW.whole enc Tryz.prog ((laidWorld os).forCall (fun _ _ => 0) ⟨#[], #[.agg #[.slice none 0 0, .slice none 0 0], .int .i64 0, .slice none 0 0], []⟩).memory Tryz.f3.params.toList Rows.productWalksSpec.vars false (#[.agg #[.slice none 0 0, .slice none 0 0], .int .i64 0, .slice none 0 0] : Array Value).toList 8 = some ([.agg [.nil, .nil], .lit (.int .i64 0), .nil], [], places) :=
  ⟨[], by kernel_rfl⟩

set_option maxRecDepth 100000 in
theorem lifted (os : Os) (started : os.Started) (H : Type) (enc : TypeId × Value → H) (F : Stop.Interp) :
    ReturnsInHanded {} Tryz.checked os 3 .any ((OpenSpec.ofChange Rows.productWalksSpec).preRow enc Tryz.prog Tryz.f3 Rows.productWalksRow.domain false Rows.productWalksRow.laid) (((OpenSpec.ofChange Rows.productWalksSpec).at F).post enc Tryz.prog Tryz.f3 false true false false) := by
  obtain ⟨places, hx⟩ := reads os enc
  refine returnsInHanded_of_row (C := Tryz.checked) (s := OpenSpec.ofChange Rows.productWalksSpec) own started (by kernel_rfl) Tryz.func3
    (witness_row_at (enc := enc) (C := Tryz.checked) false (laidWorld os) #[.agg #[.slice none 0 0, .slice none 0 0], .int .i64 0, .slice none 0 0] rfl (by kernel_rfl) (by kernel_rfl) (by kernel_rfl)
      (OpenSpec.preRow_of_cond 8 hx (by kernel_rfl) (fun k hk => by cases hk) (by kernel_rfl) (laid_met os))) ?_
  intro W base args ds gs before hval hW _ _ _ _ _ _
  exact contract H enc W base args ds gs before hval hW (fun x hx => by cases hx)

/-- Whatever it is given, it answers true and leaves its arguments as they were. -/
theorem said : Rows.ProductWalksSaid :=
  OpenClaim.holds_of_cond 3 Tryz.f3 rfl rfl rfl rfl rfl rfl rfl ⟨rfl, rfl, rfl, rfl, rfl⟩ rfl rfl rfl rfl rfl (by kernel_rfl) Tryz.func3 (by kernel_rfl)
    (of_decide_eq_true (by kernel_rfl)) (by unfold Func.isWrapper; first | (rw [if_pos (by decide +kernel)]; kernel_rfl) | (rw [if_neg (by decide +kernel)]; exact ⟨rfl, rfl⟩))
    (fun os started H enc _ F => by rw [OpenClaim.pre_eq_preRow]; exact lifted os started H enc F)

end Go.Proofs.YtfkcopokeofjoaaGreat.productWalks
