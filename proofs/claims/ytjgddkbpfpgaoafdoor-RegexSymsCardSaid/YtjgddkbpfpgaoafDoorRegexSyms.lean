/-
  PROVED: whatever RegexSyms of the module is given, it answers true, and its arguments read behind the call as they read before; on condition that the listed package-level tables hold what the program's text lays (which the card ties).
-/
import Derived.Test.YtjgddkbpfpgaoafDoorCards
import Derived.Test.YtjgddkbpfpgaoafDoorTie
import Derived.WalkKit
import Derived.ProofKit
import Derived.OpenShut
import Derived.ChangeMaps5
import Derived.Deep.DeepHandedRow
import Derived.Lib.LaidTab
import Derived.Test.YtjgddkbpfpgaoafDoorXCodeG
import Derived.Test.YtjgddkbpfpgaoafDoorRSymsLaw
namespace Go.Proofs.YtjgddkbpfpgaoafDoor.regexSyms
open Go Go.ChangeShapes Go.WideShapes Go.ChangeAt Go.RowKit
open Go.ChangeMaps (open_string)

theorem own : ownKnob Tryd.prog.godebug = none := by kernel_rfl

/-! ### The run -/
noncomputable def K := GoX.Tab.of Tryd.prog 1 [23]
theorem K_ok : K.Ok := GoX.Tab.of_ok Tryd.prog 1 [23] (by decide +kernel) (by decide +kernel)
theorem names : (Tryd.prog.funcs.toList.all fun fn => !(fn.name == "runtime.NumGoroutine")) = true := by decide +kernel
set_option maxRecDepth 100000 in
theorem K_named : ∀ (f : Nat) fn, K.P.funcs[f]? = some fn → (fn.name == "runtime.NumGoroutine") = false := fun f fn h => by
  have h2 := List.all_eq_true.1 names fn (by
    have : Tryd.prog.funcs[f]? = some fn := by rw [← show K.P = Tryd.prog from GoX.Tab.of_P Tryd.prog 1 [23]]; exact h
    exact List.mem_of_getElem? (by rw [Array.getElem?_toList]; exact this))
  simpa using h2
noncomputable def tabL : List GoX.TabL := [GoX.TabL.texts 0 [[45, 91], [93, 45, 62], [60, 45, 91], [93, 45], [40], [41], [123], [125], [44], [58], [46], [124], [94], [42], [43], [63], [61], [60, 62], [60], [60, 61], [62], [62, 61]] 110]
set_option maxRecDepth 100000 in
theorem lives_run : (GoX.denJ K [] 100000 (fun n call ops => GoX.drawC K n call ops) 100 7).go [] ⟨1, GoX.tabsT tabL⟩ GoX.isTrue = true := by decide +kernel
theorem lives_c (w : World) (hl : ∀ x ∈ tabL, x.g < 1 ∧ x.lies w) : Calls Tryd.prog 7 #[] w fun e w' => e = .returned (.bool true) ∧ GoX.Calm w w' := by
  have h := GoX.true_ofT K_ok (GoX.Tab.of_ng Tryd.prog 1 [23]) K_named lives_run (xs := []) (by simp [GoX.concs]) w hl
  rwa [show K.P = Tryd.prog from GoX.Tab.of_P Tryd.prog 1 [23]] at h

theorem lies_calm {x : GoX.TabL} {w w' : World} (h : x.lies w) (hc : GoX.Calm w w') : x.lies w' := (hc.block x.g (Array.getElem?_eq_some_iff.1 h).1).trans h
theorem walk (v : RxV) (D : Nat) (r : Rx) (w : World) (hl : ∀ x ∈ tabL, x.g < 1 ∧ x.lies w) (hh : HeldX (fun _ => True) w D v r) :
    Calls Tryd.prog 3 #[.agg #[.int .i64 v.k, .string v.s, .bool v.b, .slice v.a v.n v.c]] w fun e w' => e = .returned (.bool true) ∧ GoX.Calm w w' :=
  law_c v r w hh fun x hB => lives_c x fun y hy => ⟨(hl y hy).1, lies_calm (hl y hy).2 hB⟩

set_option maxRecDepth 100000 in
theorem contract (H : Type) (enc : TypeId × Value → H) (W : World) (base : Nat) (args : Array Value) (ds gs : List (DataW H)) (before : List MemPlace)
    (hval : ∀ (j : Nat) t v, Tryd.f3.params[j]? = some t → args[j]? = some v → Value.okWide Tryd.prog W .any base t v)
    (hW : DataW.Whole enc Tryd.prog Tryd.f3.params.toList Rows.regexSymsSpec.vars false W args.toList ds gs before) (hl : ∀ x ∈ tabL, x.g < 1 ∧ x.lies W) :
    Calls Tryd.prog 3 args W fun e W' => ∃ v, e = .returned v ∧ Rows.regexSymsSpec.post enc Tryd.prog Tryd.f3 false true false false W args v W' := by
  have hW' := hW
  obtain ⟨p, q, hA0, hV, rfl, hfz, hnd⟩ := hW
  have hA : DataW.TrodAll enc Tryd.prog W 0 (fun _ => true) true Tryd.f3.params.toList args.toList ds p := hA0
  rw [Tryd.params3] at hA hval
  obtain ⟨v0, vs0, d0, ds0, p0, q0, hargs, rfl, rfl, h0, r0⟩ := trodAll_cons hA
  obtain ⟨rfl, rfl, rfl⟩ := trodAll_nil r0
  obtain rfl : args = #[v0] := by cases args; simp_all
  obtain ⟨rfl, rfl⟩ := trodVars_none hV
  obtain ⟨y0, D0, r0, rfl, hh0⟩ := open_rx Tryd.underlying26 (by kernel_rfl) Tryd.underlying23 (by kernel_rfl) (by kernel_rfl) (by kernel_rfl) (by kernel_rfl) (by kernel_rfl) (by kernel_rfl) (by kernel_rfl) (by kernel_rfl) (by kernel_rfl) (by kernel_rfl) (by kernel_rfl) (by kernel_rfl) (by kernel_rfl) (by kernel_rfl) (by kernel_rfl) (hval 0 26 v0 rfl rfl) h0
  refine (walk y0 D0 r0 W hl hh0).mono fun e W' ⟨he, hg⟩ => ?_
  subst he
  exact ⟨_, rfl, GoX.post_of_calm (tb := 4) (by kernel_rfl) (by decide +kernel) Tryd.underlying4 (by kernel_rfl) rfl rfl hW' hg⟩

/-- The tables, as the row's condition lays them. -/
theorem tables {W : World} (hL : laidMetH Tryd.prog Rows.regexSymsRow.laid W) (hS : W.ShapedOpen Tryd.prog) : ∀ x ∈ tabL, x.g < 1 ∧ x.lies W := by
  obtain ⟨ps, hp, _⟩ := (show laidMet Tryd.prog Rows.regexSymsRow.laid W from hL)
  intro x hx
  simp only [tabL, List.mem_cons, List.not_mem_nil, or_false] at hx
  rcases hx with rfl
  · exact ⟨by decide, GoX.lies_var hS (name := "bridleway/lex.signs") (by kernel_rfl) (by decide +kernel) (by kernel_rfl)
      (GoX.texts_at hp 0 (ts := [[45, 91], [93, 45, 62], [60, 45, 91], [93, 45], [40], [41], [123], [125], [44], [58], [46], [124], [94], [42], [43], [63], [61], [60, 62], [60], [60, 61], [62], [62, 61]]) (g := 0) (t := 110) (e := 9) (n := 22) rfl (by kernel_rfl) (by kernel_rfl) (by kernel_rfl) (by kernel_rfl) (by kernel_rfl) (by kernel_rfl))⟩
/-- A WORLD FOR THE WITNESS: the settled one, the tables holding what their initialisers lay. -/
noncomputable def tabs : Nat → Option (Array Value)
  | 0 => some #[.string ⟨#[45, 91]⟩, .string ⟨#[93, 45, 62]⟩, .string ⟨#[60, 45, 91]⟩, .string ⟨#[93, 45]⟩, .string ⟨#[40]⟩, .string ⟨#[41]⟩, .string ⟨#[123]⟩, .string ⟨#[125]⟩, .string ⟨#[44]⟩, .string ⟨#[58]⟩, .string ⟨#[46]⟩, .string ⟨#[124]⟩, .string ⟨#[94]⟩, .string ⟨#[42]⟩, .string ⟨#[43]⟩, .string ⟨#[63]⟩, .string ⟨#[61]⟩, .string ⟨#[60, 62]⟩, .string ⟨#[60]⟩, .string ⟨#[60, 61]⟩, .string ⟨#[62]⟩, .string ⟨#[62, 61]⟩]
  | _ => none
noncomputable def laidWorld (os : Os) : World :=
  { World.holding Tryd.prog os ⟨#[], #[], []⟩ with heap := (World.holding Tryd.prog os ⟨#[], #[], []⟩).heap.mapIdx fun i o => match tabs i, o with
      | some cs, .cells _ t frozen => .cells cs t frozen
      | _, o => o }
theorem laid_met (os : Os) : laidMet Tryd.prog Rows.regexSymsRow.laid ((laidWorld os).forCall (fun _ _ => 0) ⟨#[], #[.agg #[.int .i64 0, .string .empty, .bool false, .slice none 0 0]], []⟩).memory :=
  laidMet_of_run' 8 (by kernel_rfl) (by kernel_rfl)
theorem reads (os : Os) {H : Type} (enc : TypeId × Value → H) : ∃ places, DataW.whole enc Tryd.prog ((laidWorld os).forCall (fun _ _ => 0) ⟨#[], #[.agg #[.int .i64 0, .string .empty, .bool false, .slice none 0 0]], []⟩).memory Tryd.f3.params.toList Rows.regexSymsSpec.vars false (#[.agg #[.int .i64 0, .string .empty, .bool false, .slice none 0 0]] : Array Value).toList 8 = some ([.agg [.lit (.int .i64 0), .agg [.lit (.string []), .lit (.bool false)], .nil]], [], places) :=
  ⟨[], by kernel_rfl⟩

set_option maxRecDepth 100000 in
theorem lifted (os : Os) (started : os.Started) (H : Type) (enc : TypeId × Value → H) (F : Stop.Interp) :
    ReturnsInHanded {} Tryd.checked os 3 .any ((OpenSpec.ofChange Rows.regexSymsSpec).preRow enc Tryd.prog Tryd.f3 Rows.regexSymsRow.domain false Rows.regexSymsRow.laid) (((OpenSpec.ofChange Rows.regexSymsSpec).at F).post enc Tryd.prog Tryd.f3 false true false false) := by
  obtain ⟨places, hx⟩ := reads os enc
  refine returnsInHanded_of_row (C := Tryd.checked) (s := OpenSpec.ofChange Rows.regexSymsSpec) own started (by kernel_rfl) Tryd.func3
    (witness_row_at (enc := enc) (C := Tryd.checked) false (laidWorld os) #[.agg #[.int .i64 0, .string .empty, .bool false, .slice none 0 0]] rfl (by kernel_rfl) (by kernel_rfl) (by kernel_rfl)
      (OpenSpec.preRow_of_cond 8 hx (by kernel_rfl) (fun k hk => by cases hk) (by kernel_rfl) (laid_met os))) ?_
  intro W base args ds gs before hval hW _ _ _ hL hS _
  exact contract H enc W base args ds gs before hval hW (tables hL hS)

/-- Whatever it is given, it answers true and leaves its arguments as they were. -/
theorem said : Rows.RegexSymsSaid :=
  OpenClaim.holds_of_cond 3 Tryd.f3 rfl rfl rfl rfl rfl rfl rfl ⟨rfl, rfl, rfl, rfl, rfl⟩ rfl rfl rfl rfl rfl (by kernel_rfl) Tryd.func3 (by kernel_rfl)
    (of_decide_eq_true (by kernel_rfl)) (by unfold Func.isWrapper; first | (rw [if_pos (by decide +kernel)]; kernel_rfl) | (rw [if_neg (by decide +kernel)]; exact ⟨rfl, rfl⟩))
    (fun os started H enc _ F => by rw [OpenClaim.pre_eq_preRow]; exact lifted os started H enc F)

/-- No parameter wants a stand-in; the program's own looks are off: what the card asks. -/
theorem plain (f : FuncId) (fn : Func) (hf : Tryd.pinned.checked.prog.funcNamed "bridleway/bridlewaylaw10.RegexSyms" = some f) (hfn : Tryd.pinned.checked.prog.funcs[f]? = some fn) :
    false = Tryd.pinned.checked.prog.looks [] ∧ ∀ (j : Nat) t, fn.params[j]? = some t → Tryd.pinned.checked.prog.wantsStandIn t = false := by
  obtain rfl : f = 3 := Option.some.inj ((show Tryd.prog.funcNamed "bridleway/bridlewaylaw10.RegexSyms" = some 3 by kernel_rfl).symm.trans hf) |>.symm
  obtain rfl : fn = Tryd.f3 := (Option.some.inj (Tryd.func3.symm.trans hfn)).symm
  refine ⟨by kernel_rfl, fun j t ht => ?_⟩
  rw [Tryd.params3] at ht
  have hm := Array.mem_of_getElem? ht
  have h2 : t = 26 := by simpa using hm
  subst h2
  exact (show Tryd.prog.wantsStandIn 26 = false by kernel_rfl)

/-- THE CARD: whatever it is given, it answers true and leaves its arguments as they were. -/
theorem card : Rows.RegexSymsCardSaid :=
  Claim7.holds_tied_plain_at .later [] _ _ _ _ said (fun _ h => by cases h) (by kernel_rfl) (fun _ h => by cases h) regexSyms_row_tie rfl ⟨rfl, rfl⟩ (by kernel_rfl) rfl plain (by kernel_rfl)
end Go.Proofs.YtjgddkbpfpgaoafDoor.regexSyms
