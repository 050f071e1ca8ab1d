/-
  PROVED: whatever ValueNames of the module is given, it answers true, and its arguments read behind the call as they read before; on condition that the listed package-level tables hold what the program's text lays (which the card ties).
-/
import Derived.Test.YtfjhiaafabmpbacDoorCards
import Derived.Test.YtfjhiaafabmpbacDoorTie
import Derived.WalkKit
import Derived.ProofKit
import Derived.OpenShut
import Derived.ChangeMaps5
import Derived.Deep.DeepHandedRow
import Derived.Lib.LaidTab
import Derived.Test.YtfjhiaafabmpbacDoorXCodeG
import Derived.Test.YtfjhiaafabmpbacDoorCut
import Derived.Test.YtfjhiaafabmpbacDoorOps
import Derived.Test.YtfjhiaafabmpbacDoorSigTab
namespace Go.Proofs.YtfjhiaafabmpbacDoor.valueNames
open Go Go.ChangeShapes Go.WideShapes Go.ChangeAt Go.RowKit
open Go.ChangeMaps (open_string)

theorem own : ownKnob Tryd.prog.godebug = none := by kernel_rfl

/-! ### The run -/
noncomputable def K := GoX.Tab.of Tryd.prog 0 []
theorem K_ok : K.Ok := GoX.Tab.of_ok Tryd.prog 0 [] (by simp) (by decide +kernel)
theorem names : (Tryd.prog.funcs.toList.all fun fn => !(fn.name == "runtime.NumGoroutine")) = true := by decide +kernel
theorem K_named : ∀ (f : Nat) fn, K.P.funcs[f]? = some fn → (fn.name == "runtime.NumGoroutine") = false := fun f fn h => by
  have h2 := List.all_eq_true.1 names fn (by
    have : Tryd.prog.funcs[f]? = some fn := by rw [← GoX.Tab.of_P Tryd.prog 0 []]; exact h
    exact List.mem_of_getElem? (by rw [Array.getElem?_toList]; exact this))
  simpa using h2
noncomputable def tabL : List GoX.TabL := []
theorem lives_run : (GoX.denJ K [] 100000 (fun n call ops => GoX.drawC K n call ops) 100 9).go [] ⟨0, GoX.tabsT tabL⟩ GoX.isTrue = true := by decide +kernel
theorem lives_c (w : World) (hl : ∀ x ∈ tabL, x.g < 0 ∧ x.lies w) : Calls Tryd.prog 9 #[] w fun e w' => e = .returned (.bool true) ∧ GoX.Calm w w' := by
  have h := GoX.true_ofT K_ok (GoX.Tab.of_ng Tryd.prog 0 []) K_named lives_run (xs := []) (by simp [GoX.concs]) w hl
  rwa [show K.P = Tryd.prog from GoX.Tab.of_P Tryd.prog 0 []] at h

/-- The table of signs, as the row's condition lays it. -/
def Extra (w : World) : Prop := ∀ k, k ≤ 6 → w.cell? ⟨0, k, none⟩ = some (.string (sgn k))
theorem extra {W : World} (hL : laidMetH Tryd.prog Rows.valueNamesRow.laid W) : Extra W := fun k hk => by
  have h : laidMet Tryd.prog Rows.valueNamesRow.laid W := hL
  have hc := texts_of_head (ts := [[], [61], [60, 62], [60], [60, 61], [62], [62, 61]]) (g := 0) (t := 28) (e := 9) (n := 7) (by kernel_rfl) (by kernel_rfl) (by kernel_rfl) (by kernel_rfl) (by kernel_rfl) (by kernel_rfl) h k (by simp; omega)
  rw [hc]
  rcases k with _ | _ | _ | _ | _ | _ | _ | k <;> first | rfl | omega
set_option maxHeartbeats 1600000 in
set_option maxRecDepth 100000 in
theorem walk (t0 : ByteArray) (_ : t0.size ≤ maxLen) (w : World) (hl : Extra w) :
    Calls Tryd.prog 3 #[.string t0] w fun e w' => e = .returned (.bool true) ∧ GoX.Calm w w' := by
  have hlv : ∀ w, Calls Tryd.prog 9 #[] w fun e w' => e = .returned (.bool true) ∧ GoX.Calm w w' := fun w => lives_c w (fun x hx => by cases hx)
  have hc1 := fun w => cut_c t0 60 w (by omega)
  have hs := cutB_size t0 60
  generalize cutB t0 60 = s at *
  have hg : 0 < w.heap.size := World.block_lt_of_cell? w ⟨0, 0, none⟩ (hl 0 (by omega))
  have ho1 := op_c s w hg hl
  have ho2 := fun w => rop_c s w
  have hn1 := fun w => name_c s w (by omega)
  have hn2 := fun w => rname_c s w (by omega)
  clear hl
  generalize decide (nameS s) = R at *
  generalize (sgn (bst s 6)).size = Z at *
  generalize bst s 6 = X at *
  go_enter Tryd.func3, Tryd.ntmps3
  go_wp2_with fail
  refine (hc1 w).mono ?_
  rintro e1 w1 ⟨rfl, rfl⟩
  go_wp2_with fail
  refine ho1.mono ?_
  rintro e2 w2 ⟨rfl, hB2⟩
  go_wp2_with fail
  refine (ho2 _).mono ?_
  rintro e3 w3 ⟨rfl, hB3⟩
  have hC3 := hB2.trans (hB3.mono hB2.size)
  go_wp2_with fail
  refine (hn1 _).mono ?_
  rintro e4 w4 ⟨rfl, rfl⟩
  go_wp2_with fail
  refine (hn2 _).mono ?_
  rintro e5 w5 ⟨rfl, rfl⟩
  go_wp2_with fail
  refine (hlv _).mono ?_
  rintro e6 w6 ⟨rfl, hB6⟩
  go_wp2
  go_ret
  exact ⟨rfl, (GoX.Calm.of_below hC3).trans hB6⟩

set_option maxRecDepth 100000 in
theorem contract (H : Type) (enc : TypeId × Value → H) (W : World) (base : Nat) (args : Array Value) (ds gs : List (DataW H)) (before : List MemPlace)
    (hval : ∀ (j : Nat) t v, Tryd.f3.params[j]? = some t → args[j]? = some v → Value.okWide Tryd.prog W .any base t v)
    (hW : DataW.Whole enc Tryd.prog Tryd.f3.params.toList Rows.valueNamesSpec.vars false W args.toList ds gs before) (hl : Extra W) :
    Calls Tryd.prog 3 args W fun e W' => ∃ v, e = .returned v ∧ Rows.valueNamesSpec.post enc Tryd.prog Tryd.f3 false true false false W args v W' := by
  have hW' := hW
  obtain ⟨p, q, hA0, hV, rfl, hfz, hnd⟩ := hW
  have hA : DataW.TrodAll enc Tryd.prog W 0 (fun _ => true) true Tryd.f3.params.toList args.toList ds p := hA0
  rw [Tryd.params3] at hA hval
  obtain ⟨v0, vs0, d0, ds0, p0, q0, hargs, rfl, rfl, h0, r0⟩ := trodAll_cons hA
  obtain ⟨rfl, rfl, rfl⟩ := trodAll_nil r0
  obtain rfl : args = #[v0] := by cases args; simp_all
  obtain ⟨rfl, rfl⟩ := trodVars_none hV
  obtain ⟨s0, rfl, _, _, w0⟩ := open_string Tryd.underlying9 (hval 0 9 v0 rfl rfl) h0
  refine (walk s0 w0 W hl).mono fun e W' ⟨he, hg⟩ => ?_
  subst he
  exact ⟨_, rfl, GoX.post_of_calm (tb := 4) (by kernel_rfl) (by decide +kernel) Tryd.underlying4 (by kernel_rfl) rfl rfl hW' hg⟩

/-- A WORLD FOR THE WITNESS: the settled one, the tables holding what their initialisers lay. -/
noncomputable def tabs : Nat → Option (Array Value)
  | 0 => some #[.string ⟨#[]⟩, .string ⟨#[61]⟩, .string ⟨#[60, 62]⟩, .string ⟨#[60]⟩, .string ⟨#[60, 61]⟩, .string ⟨#[62]⟩, .string ⟨#[62, 61]⟩]
  | _ => none
noncomputable def laidWorld (os : Os) : World :=
  { World.holding Tryd.prog os ⟨#[], #[], []⟩ with heap := (World.holding Tryd.prog os ⟨#[], #[], []⟩).heap.mapIdx fun i o => match tabs i, o with
      | some cs, .cells _ t frozen => .cells cs t frozen
      | _, o => o }
theorem laid_met (os : Os) : laidMet Tryd.prog Rows.valueNamesRow.laid ((laidWorld os).forCall (fun _ _ => 0) ⟨#[], #[.string .empty], []⟩).memory :=
  laidMet_of_run' 8 (by kernel_rfl) (by kernel_rfl)
theorem reads (os : Os) {H : Type} (enc : TypeId × Value → H) : ∃ places, DataW.whole enc Tryd.prog ((laidWorld os).forCall (fun _ _ => 0) ⟨#[], #[.string .empty], []⟩).memory Tryd.f3.params.toList Rows.valueNamesSpec.vars false (#[.string .empty] : Array Value).toList 8 = some ([.lit (.string [])], [], places) :=
  ⟨[], by kernel_rfl⟩

set_option maxRecDepth 100000 in
theorem lifted (os : Os) (started : os.Started) (H : Type) (enc : TypeId × Value → H) (F : Stop.Interp) :
    ReturnsInHanded {} Tryd.checked os 3 .any ((OpenSpec.ofChange Rows.valueNamesSpec).preRow enc Tryd.prog Tryd.f3 Rows.valueNamesRow.domain false Rows.valueNamesRow.laid) (((OpenSpec.ofChange Rows.valueNamesSpec).at F).post enc Tryd.prog Tryd.f3 false true false false) := by
  obtain ⟨places, hx⟩ := reads os enc
  refine returnsInHanded_of_row (C := Tryd.checked) (s := OpenSpec.ofChange Rows.valueNamesSpec) own started (by kernel_rfl) Tryd.func3
    (witness_row_at (enc := enc) (C := Tryd.checked) false (laidWorld os) #[.string .empty] rfl (by kernel_rfl) (by kernel_rfl) (by kernel_rfl)
      (OpenSpec.preRow_of_cond 8 hx (by kernel_rfl) (fun k hk => by cases hk) (by kernel_rfl) (laid_met os))) ?_
  intro W base args ds gs before hval hW _ _ _ hL _ _
  exact contract H enc W base args ds gs before hval hW (extra hL)

/-- Whatever it is given, it answers true and leaves its arguments as they were. -/
theorem said : Rows.ValueNamesSaid :=
  OpenClaim.holds_of_cond 3 Tryd.f3 rfl rfl rfl rfl rfl rfl rfl ⟨rfl, rfl, rfl, rfl, rfl⟩ rfl rfl rfl rfl rfl (by kernel_rfl) Tryd.func3 (by kernel_rfl)
    (of_decide_eq_true (by kernel_rfl)) (by unfold Func.isWrapper; first | (rw [if_pos (by decide +kernel)]; kernel_rfl) | (rw [if_neg (by decide +kernel)]; exact ⟨rfl, rfl⟩))
    (fun os started H enc _ F => by rw [OpenClaim.pre_eq_preRow]; exact lifted os started H enc F)

/-- No parameter wants a stand-in; the program's own looks are off: what the card asks. -/
theorem plain (f : FuncId) (fn : Func) (hf : Tryd.pinned.checked.prog.funcNamed "bridleway/bridlewaylaw05.ValueNames" = some f) (hfn : Tryd.pinned.checked.prog.funcs[f]? = some fn) :
    false = Tryd.pinned.checked.prog.looks [] ∧ ∀ (j : Nat) t, fn.params[j]? = some t → Tryd.pinned.checked.prog.wantsStandIn t = false := by
  obtain rfl : f = 3 := Option.some.inj ((show Tryd.prog.funcNamed "bridleway/bridlewaylaw05.ValueNames" = some 3 by kernel_rfl).symm.trans hf) |>.symm
  obtain rfl : fn = Tryd.f3 := (Option.some.inj (Tryd.func3.symm.trans hfn)).symm
  refine ⟨by kernel_rfl, fun j t ht => ?_⟩
  rw [Tryd.params3] at ht
  have hm := Array.mem_of_getElem? ht
  have h2 : t = 9 := by simpa using hm
  subst h2
  exact (show Tryd.prog.wantsStandIn 9 = false by kernel_rfl)

/-- THE CARD: whatever it is given, it answers true and leaves its arguments as they were. -/
theorem card : Rows.ValueNamesCardSaid :=
  Claim7.holds_tied_plain_at .later [] _ _ _ _ said (fun _ h => by cases h) (by kernel_rfl) (fun _ h => by cases h) valueNames_row_tie rfl ⟨rfl, rfl⟩ (by kernel_rfl) rfl plain (by kernel_rfl)
end Go.Proofs.YtfjhiaafabmpbacDoor.valueNames
