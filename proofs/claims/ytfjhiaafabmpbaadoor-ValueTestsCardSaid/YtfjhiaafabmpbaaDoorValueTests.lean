/-
  PROVED: whatever ValueTests of the module is given, it answers true, and its arguments read behind the call as they read before; on condition that the listed package-level tables hold what the program's text lays (which the card ties).
-/
import Derived.Test.YtfjhiaafabmpbaaDoorCards
import Derived.Test.YtfjhiaafabmpbaaDoorTie
import Derived.WalkKit
import Derived.ProofKit
import Derived.OpenShut
import Derived.ChangeMaps5
import Derived.Deep.DeepHandedRow
import Derived.Lib.LaidTab
import Derived.Test.YtfjhiaafabmpbaaDoorXCodeG
import Derived.Test.YtfjhiaafabmpbaaDoorVLaw
import Derived.Test.YtfjhiaafabmpbaaDoorSigTab
import Derived.Test.YtfjhiaafabmpbaaDoorCells
namespace Go.Proofs.YtfjhiaafabmpbaaDoor.valueTests
open Go Go.ChangeShapes Go.WideShapes Go.ChangeAt Go.RowKit
open Go.ChangeMaps (open_string)

theorem own : ownKnob Tryd.prog.godebug = none := by kernel_rfl

/-! ### The run -/
noncomputable def K := GoX.Tab.of Tryd.prog 0 []
theorem K_ok : K.Ok := GoX.Tab.of_ok Tryd.prog 0 [] (by simp) (by decide +kernel)
theorem names : (Tryd.prog.funcs.toList.all fun fn => !(fn.name == "runtime.NumGoroutine")) = true := by decide +kernel
theorem K_named : ∀ (f : Nat) fn, K.P.funcs[f]? = some fn → (fn.name == "runtime.NumGoroutine") = false := fun f fn h => by
  have h2 := List.all_eq_true.1 names fn (by
    have : Tryd.prog.funcs[f]? = some fn := by rw [← GoX.Tab.of_P Tryd.prog 0 []]; exact h
    exact List.mem_of_getElem? (by rw [Array.getElem?_toList]; exact this))
  simpa using h2
noncomputable def tabL : List GoX.TabL := []
theorem lives_run : (GoX.denJ K [] 100000 (fun n call ops => GoX.drawC K n call ops) 100 13).go [] ⟨0, GoX.tabsT tabL⟩ GoX.isTrue = true := by decide +kernel
theorem lives_c (w : World) (hl : ∀ x ∈ tabL, x.g < 0 ∧ x.lies w) : Calls Tryd.prog 13 #[] w fun e w' => e = .returned (.bool true) ∧ GoX.Calm w w' := by
  have h := GoX.true_ofT K_ok (GoX.Tab.of_ng Tryd.prog 0 []) K_named lives_run (xs := []) (by simp [GoX.concs]) w hl
  rwa [show K.P = Tryd.prog from GoX.Tab.of_P Tryd.prog 0 []] at h

/-- The table of signs, as the row's condition lays it. -/
def Extra (w : World) : Prop := ∀ k, k ≤ 6 → w.cell? ⟨0, k, none⟩ = some (.string (sgn k))
theorem extra {W : World} (hL : laidMetH Tryd.prog Rows.valueTestsRow.laid W) : Extra W := fun k hk => by
  have h : laidMet Tryd.prog Rows.valueTestsRow.laid W := hL
  have hc := texts_of_head (ts := [[], [61], [60, 62], [60], [60, 61], [62], [62, 61]]) (g := 0) (t := 35) (e := 9) (n := 7) (by kernel_rfl) (by kernel_rfl) (by kernel_rfl) (by kernel_rfl) (by kernel_rfl) (by kernel_rfl) h k (by simp; omega)
  rw [hc]
  rcases k with _ | _ | _ | _ | _ | _ | _ | k <;> first | rfl | omega
theorem walk (o : Int) (_ : (Lit.int .i64 o).wf = true) (k n : Int) (s : ByteArray) (k' n' : Int) (s' : ByteArray) (w : World) (hl : Extra w) :
    Calls Tryd.prog 3 #[.int .i64 o, .agg #[.int .i64 k, .int .i64 n, .string s], .agg #[.int .i64 k', .int .i64 n', .string s']] w fun e w' => e = .returned (.bool true) ∧ GoX.Calm w w' :=
  law_c o k n k' n' s s' w hl fun x => lives_c x (fun x hx => by cases hx)

set_option maxRecDepth 100000 in
theorem contract (H : Type) (enc : TypeId × Value → H) (W : World) (base : Nat) (args : Array Value) (ds gs : List (DataW H)) (before : List MemPlace)
    (hval : ∀ (j : Nat) t v, Tryd.f3.params[j]? = some t → args[j]? = some v → Value.okWide Tryd.prog W .any base t v)
    (hW : DataW.Whole enc Tryd.prog Tryd.f3.params.toList Rows.valueTestsSpec.vars false W args.toList ds gs before) (hl : Extra W) :
    Calls Tryd.prog 3 args W fun e W' => ∃ v, e = .returned v ∧ Rows.valueTestsSpec.post enc Tryd.prog Tryd.f3 false true false false W args v W' := by
  have hW' := hW
  obtain ⟨p, q, hA0, hV, rfl, hfz, hnd⟩ := hW
  have hA : DataW.TrodAll enc Tryd.prog W 0 (fun _ => true) true Tryd.f3.params.toList args.toList ds p := hA0
  rw [Tryd.params3] at hA hval
  obtain ⟨v0, vs0, d0, ds0, p0, q0, hargs, rfl, rfl, h0, r0⟩ := trodAll_cons hA
  obtain ⟨v1, vs1, d1, ds1, p1, q1, rfl, rfl, rfl, h1, r1⟩ := trodAll_cons r0
  obtain ⟨v2, vs2, d2, ds2, p2, q2, rfl, rfl, rfl, h2, r2⟩ := trodAll_cons r1
  obtain ⟨rfl, rfl, rfl⟩ := trodAll_nil r2
  obtain rfl : args = #[v0, v1, v2] := by cases args; simp_all
  obtain ⟨rfl, rfl⟩ := trodVars_none hV
  obtain ⟨a0, rfl, _, _, w0⟩ := open_int Tryd.underlying3 (hval 0 3 v0 rfl rfl) h0
  obtain ⟨ts1, hts1, hlen1⟩ : ∃ ts, Tryd.prog.cellTypes Tryd.prog.depth 23 = some ts ∧ ts = [3, 3, 9] := ⟨_, by kernel_rfl, rfl⟩
  obtain ⟨l1, n1, rfl, c1, u1⟩ := GoX.arg_typed (n := 3) (by kernel_rfl) (by kernel_rfl) hts1 (by rw [hlen1]; rfl) (hval 1 23 v1 rfl rfl)
  subst hlen1
  obtain ⟨y1_0, y1_1, y1_2, rfl⟩ : ∃ y1_0 y1_1 y1_2, l1 = [y1_0, y1_1, y1_2] := by
    match l1, n1 with
    | [y1_0, y1_1, y1_2], _ => exact ⟨y1_0, y1_1, y1_2, rfl⟩
  obtain ⟨u, hu, hc⟩ := u1 0 y1_0 rfl
  cases hu
  obtain ⟨n1_0, rfl⟩ := GoX.cell_int (P := Tryd.prog) Tryd.underlying3 hc
  obtain ⟨u, hu, hc⟩ := u1 1 y1_1 rfl
  cases hu
  obtain ⟨n1_1, rfl⟩ := GoX.cell_int (P := Tryd.prog) Tryd.underlying3 hc
  obtain ⟨u, hu, hc⟩ := u1 2 y1_2 rfl
  cases hu
  obtain ⟨s1_2, rfl⟩ := cell_str (P := Tryd.prog) Tryd.underlying9 hc
  obtain ⟨ts2, hts2, hlen2⟩ : ∃ ts, Tryd.prog.cellTypes Tryd.prog.depth 23 = some ts ∧ ts = [3, 3, 9] := ⟨_, by kernel_rfl, rfl⟩
  obtain ⟨l2, n2, rfl, c2, u2⟩ := GoX.arg_typed (n := 3) (by kernel_rfl) (by kernel_rfl) hts2 (by rw [hlen2]; rfl) (hval 2 23 v2 rfl rfl)
  subst hlen2
  obtain ⟨y2_0, y2_1, y2_2, rfl⟩ : ∃ y2_0 y2_1 y2_2, l2 = [y2_0, y2_1, y2_2] := by
    match l2, n2 with
    | [y2_0, y2_1, y2_2], _ => exact ⟨y2_0, y2_1, y2_2, rfl⟩
  obtain ⟨u, hu, hc⟩ := u2 0 y2_0 rfl
  cases hu
  obtain ⟨n2_0, rfl⟩ := GoX.cell_int (P := Tryd.prog) Tryd.underlying3 hc
  obtain ⟨u, hu, hc⟩ := u2 1 y2_1 rfl
  cases hu
  obtain ⟨n2_1, rfl⟩ := GoX.cell_int (P := Tryd.prog) Tryd.underlying3 hc
  obtain ⟨u, hu, hc⟩ := u2 2 y2_2 rfl
  cases hu
  obtain ⟨s2_2, rfl⟩ := cell_str (P := Tryd.prog) Tryd.underlying9 hc
  refine (walk a0 w0 n1_0 n1_1 s1_2 n2_0 n2_1 s2_2 W hl).mono fun e W' ⟨he, hg⟩ => ?_
  subst he
  exact ⟨_, rfl, GoX.post_of_calm (tb := 4) (by kernel_rfl) (by decide +kernel) Tryd.underlying4 (by kernel_rfl) rfl rfl hW' hg⟩

/-- A WORLD FOR THE WITNESS: the settled one, the tables holding what their initialisers lay. -/
noncomputable def tabs : Nat → Option (Array Value)
  | 0 => some #[.string ⟨#[]⟩, .string ⟨#[61]⟩, .string ⟨#[60, 62]⟩, .string ⟨#[60]⟩, .string ⟨#[60, 61]⟩, .string ⟨#[62]⟩, .string ⟨#[62, 61]⟩]
  | _ => none
noncomputable def laidWorld (os : Os) : World :=
  { World.holding Tryd.prog os ⟨#[], #[], []⟩ with heap := (World.holding Tryd.prog os ⟨#[], #[], []⟩).heap.mapIdx fun i o => match tabs i, o with
      | some cs, .cells _ t frozen => .cells cs t frozen
      | _, o => o }
theorem laid_met (os : Os) : laidMet Tryd.prog Rows.valueTestsRow.laid ((laidWorld os).forCall (fun _ _ => 0) ⟨#[], #[.int .i64 0, .agg #[.int .i64 0, .int .i64 0, .string .empty], .agg #[.int .i64 0, .int .i64 0, .string .empty]], []⟩).memory :=
  laidMet_of_run' 8 (by kernel_rfl) (by kernel_rfl)
theorem reads (os : Os) {H : Type} (enc : TypeId × Value → H) : ∃ places, DataW.whole enc Tryd.prog ((laidWorld os).forCall (fun _ _ => 0) ⟨#[], #[.int .i64 0, .agg #[.int .i64 0, .int .i64 0, .string .empty], .agg #[.int .i64 0, .int .i64 0, .string .empty]], []⟩).memory Tryd.f3.params.toList Rows.valueTestsSpec.vars false (#[.int .i64 0, .agg #[.int .i64 0, .int .i64 0, .string .empty], .agg #[.int .i64 0, .int .i64 0, .string .empty]] : Array Value).toList 8 = some ([.lit (.int .i64 0), .agg [.lit (.int .i64 0), .lit (.int .i64 0), .lit (.string [])], .agg [.lit (.int .i64 0), .lit (.int .i64 0), .lit (.string [])]], [], places) :=
  ⟨[], by kernel_rfl⟩

set_option maxRecDepth 100000 in
theorem lifted (os : Os) (started : os.Started) (H : Type) (enc : TypeId × Value → H) (F : Stop.Interp) :
    ReturnsInHanded {} Tryd.checked os 3 .any ((OpenSpec.ofChange Rows.valueTestsSpec).preRow enc Tryd.prog Tryd.f3 Rows.valueTestsRow.domain false Rows.valueTestsRow.laid) (((OpenSpec.ofChange Rows.valueTestsSpec).at F).post enc Tryd.prog Tryd.f3 false true false false) := by
  obtain ⟨places, hx⟩ := reads os enc
  refine returnsInHanded_of_row (C := Tryd.checked) (s := OpenSpec.ofChange Rows.valueTestsSpec) own started (by kernel_rfl) Tryd.func3
    (witness_row_at (enc := enc) (C := Tryd.checked) false (laidWorld os) #[.int .i64 0, .agg #[.int .i64 0, .int .i64 0, .string .empty], .agg #[.int .i64 0, .int .i64 0, .string .empty]] rfl (by kernel_rfl) (by kernel_rfl) (by kernel_rfl)
      (OpenSpec.preRow_of_cond 8 hx (by kernel_rfl) (fun k hk => by cases hk) (by kernel_rfl) (laid_met os))) ?_
  intro W base args ds gs before hval hW _ _ _ hL _ _
  exact contract H enc W base args ds gs before hval hW (extra hL)

/-- Whatever it is given, it answers true and leaves its arguments as they were. -/
theorem said : Rows.ValueTestsSaid :=
  OpenClaim.holds_of_cond 3 Tryd.f3 rfl rfl rfl rfl rfl rfl rfl ⟨rfl, rfl, rfl, rfl, rfl⟩ rfl rfl rfl rfl rfl (by kernel_rfl) Tryd.func3 (by kernel_rfl)
    (of_decide_eq_true (by kernel_rfl)) (by unfold Func.isWrapper; first | (rw [if_pos (by decide +kernel)]; kernel_rfl) | (rw [if_neg (by decide +kernel)]; exact ⟨rfl, rfl⟩))
    (fun os started H enc _ F => by rw [OpenClaim.pre_eq_preRow]; exact lifted os started H enc F)

/-- No parameter wants a stand-in; the program's own looks are off: what the card asks. -/
theorem plain (f : FuncId) (fn : Func) (hf : Tryd.pinned.checked.prog.funcNamed "bridleway/bridlewaylaw05.ValueTests" = some f) (hfn : Tryd.pinned.checked.prog.funcs[f]? = some fn) :
    false = Tryd.pinned.checked.prog.looks [] ∧ ∀ (j : Nat) t, fn.params[j]? = some t → Tryd.pinned.checked.prog.wantsStandIn t = false := by
  obtain rfl : f = 3 := Option.some.inj ((show Tryd.prog.funcNamed "bridleway/bridlewaylaw05.ValueTests" = some 3 by kernel_rfl).symm.trans hf) |>.symm
  obtain rfl : fn = Tryd.f3 := (Option.some.inj (Tryd.func3.symm.trans hfn)).symm
  refine ⟨by kernel_rfl, fun j t ht => ?_⟩
  rw [Tryd.params3] at ht
  have hm := Array.mem_of_getElem? ht
  have h2 : t = 3 ∨ t = 23 := by simpa using hm
  rcases h2 with rfl | rfl
  · exact (show Tryd.prog.wantsStandIn 3 = false by kernel_rfl)
  · exact (show Tryd.prog.wantsStandIn 23 = false by kernel_rfl)

/-- THE CARD: whatever it is given, it answers true and leaves its arguments as they were. -/
theorem card : Rows.ValueTestsCardSaid :=
  Claim7.holds_tied_plain_at .later [] _ _ _ _ said (fun _ h => by cases h) (by kernel_rfl) (fun _ h => by cases h) valueTests_row_tie rfl ⟨rfl, rfl⟩ (by kernel_rfl) rfl plain (by kernel_rfl)
end Go.Proofs.YtfjhiaafabmpbaaDoor.valueTests
