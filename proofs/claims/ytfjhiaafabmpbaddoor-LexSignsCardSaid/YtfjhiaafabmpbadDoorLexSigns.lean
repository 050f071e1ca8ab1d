/-
  PROVED: whatever LexSigns of the module is given, it answers true, and its arguments read behind the call as they read before; on condition that the listed package-level tables hold what the program's text lays (which the card ties).
-/
import Derived.Test.YtfjhiaafabmpbadDoorCards
import Derived.Test.YtfjhiaafabmpbadDoorTie
import Derived.WalkKit
import Derived.ProofKit
import Derived.OpenShut
import Derived.ChangeMaps5
import Derived.Deep.DeepHandedRow
import Derived.Lib.LaidTab
import Derived.Test.YtfjhiaafabmpbadDoorXCodeG
import Derived.Test.YtfjhiaafabmpbadDoorCut
import Derived.Test.YtfjhiaafabmpbadDoorLexTab
namespace Go.Proofs.YtfjhiaafabmpbadDoor.lexSigns
open Go Go.ChangeShapes Go.WideShapes Go.ChangeAt Go.RowKit
open Go.ChangeMaps (open_string)

theorem own : ownKnob Tryd.prog.godebug = none := by kernel_rfl

/-! ### The run -/
noncomputable def K := GoX.Tab.of Tryd.prog 1 []
theorem K_ok : K.Ok := GoX.Tab.of_ok Tryd.prog 1 [] (by simp) (by decide +kernel)
theorem names : (Tryd.prog.funcs.toList.all fun fn => !(fn.name == "runtime.NumGoroutine")) = true := by decide +kernel
theorem K_named : ∀ (f : Nat) fn, K.P.funcs[f]? = some fn → (fn.name == "runtime.NumGoroutine") = false := fun f fn h => by
  have h2 := List.all_eq_true.1 names fn (by
    have : Tryd.prog.funcs[f]? = some fn := by rw [← GoX.Tab.of_P Tryd.prog 1 []]; exact h
    exact List.mem_of_getElem? (by rw [Array.getElem?_toList]; exact this))
  simpa using h2
noncomputable def tabL : List GoX.TabL := [GoX.TabL.texts 0 [[45, 91], [93, 45, 62], [60, 45, 91], [93, 45], [40], [41], [123], [125], [44], [58], [46], [124], [94], [42], [43], [63], [61], [60, 62], [60], [60, 61], [62], [62, 61]] 29]
theorem lives_run : (GoX.denJ K [] 100000 (fun n call ops => GoX.drawC K n call ops) 100 12).go [] ⟨1, GoX.tabsT tabL⟩ GoX.isTrue = true := by decide +kernel
theorem lives_c (w : World) (hl : ∀ x ∈ tabL, x.g < 1 ∧ x.lies w) : Calls Tryd.prog 12 #[] w fun e w' => e = .returned (.bool true) ∧ GoX.Calm w w' := by
  have h := GoX.true_ofT K_ok (GoX.Tab.of_ng Tryd.prog 1 []) K_named lives_run (xs := []) (by simp [GoX.concs]) w hl
  rwa [show K.P = Tryd.prog from GoX.Tab.of_P Tryd.prog 1 []] at h

theorem cells_of_lies {w : World} (h : ∀ x ∈ tabL, x.g < 1 ∧ x.lies w) : ∀ k, k < 22 → w.cell? ⟨0, k, none⟩ = some (.string (siL.getD k ⟨#[]⟩)) := fun k hk => by
  have hl := (h _ (by simp [tabL]; rfl)).2
  have hl : w.heap[0]? = some (.cells (siL.map Value.string).toArray 29) := hl
  have := siL_at hk
  simp only [World.cell?, hl]
  simpa using this
set_option maxHeartbeats 1600000 in
set_option maxRecDepth 100000 in
theorem walk (t0 : ByteArray) (_ : t0.size ≤ maxLen) (w : World) (hl : ∀ x ∈ tabL, x.g < 1 ∧ x.lies w) :
    Calls Tryd.prog 3 #[.string t0] w fun e w' => e = .returned (.bool true) ∧ GoX.Calm w w' := by
  have hlv : ∀ w', Below w.heap.size w w' → Calls Tryd.prog 12 #[] w' fun e w'' => e = .returned (.bool true) ∧ GoX.Calm w' w'' := fun w' hB => lives_c w' (fun x hx => ⟨(hl x hx).1, (hB.block x.g (by
    have := (hl x hx).2
    unfold GoX.TabL.lies at this
    exact (Array.getElem?_eq_some_iff.1 this).1)).trans (hl x hx).2⟩)
  have hsig := cells_of_lies hl
  have hg : 0 < w.heap.size := World.block_lt_of_cell? w ⟨0, 0, none⟩ (hsig 0 (by omega))
  have hc1 := fun w => cut_c t0 30 w (by omega)
  generalize cutB t0 30 = s at *
  have hsigB : ∀ w', Below w.heap.size w w' → ∀ k, k < 22 → w'.cell? ⟨0, k, none⟩ = some (.string (siL.getD k ⟨#[]⟩)) := fun w' hB k hk => (hB.cell (by exact hg)).trans (hsig k hk)
  have hk1 := fun w => key_c s w
  have hk2 := fun w => rkey_c s w
  have hs1 := fun w' (hB : Below w.heap.size w w') => sign_c s w' (hsigB w' hB)
  have hs2 := fun w => rsign_c s w
  have hss := fun w' (hB : Below w.heap.size w w') => signs_c w' (Nat.lt_of_lt_of_le hg hB.size) (hsigB w' hB)
  clear hl hsig hsigB
  generalize keyB s = R at *
  generalize bestOf s = X at *
  go_enter Tryd.func3, Tryd.ntmps3
  go_wp2_with fail
  refine (hc1 w).mono ?_
  rintro e1 w1 ⟨rfl, rfl⟩
  go_wp2_with fail
  refine (hk1 _).mono ?_
  rintro e2 w2 ⟨rfl, rfl⟩
  go_wp2_with fail
  refine (hk2 _).mono ?_
  rintro e3 w3 ⟨rfl, hB3⟩
  go_wp2_with fail
  refine (hs1 _ hB3).mono ?_
  rintro e4 w4 ⟨rfl, rfl⟩
  go_wp2_with fail
  refine (hs2 _).mono ?_
  rintro e5 w5 ⟨rfl, hB5⟩
  have hC5 := hB3.trans (hB5.mono hB3.size)
  go_wp2_with fail
  refine (hss _ hC5).mono ?_
  rintro e6 w6 ⟨v, rfl, ho, hB6⟩
  have hC6 := hC5.trans (hB6.mono hC5.size)
  have hv := holds_of_owns ho
  clear ho
  go_wp2_with fail
  refine (rsigns_c _).mono ?_
  rintro e7 w7 ⟨rfl, hw7⟩
  have hB7 : Below w6.heap.size w6 w7 := by rw [hw7]; exact (Below.refl _ _).alloc (Nat.le_refl _) _
  have hv2 : Holds w7 (.slice (some ⟨w6.heap.size, 0, none⟩) 22 22) (siL.map Value.string) := by
    rw [hw7]
    exact ⟨some ⟨w6.heap.size, 0, none⟩, 22, rfl, .inr ⟨w6.heap.size, 0, rfl, by simp, fun j u hj => by
      rw [World.cell?_alloc_new]
      simpa using hj⟩⟩
  have hv1 := hv.below hB7
  have hC7 := hC6.trans (hB7.mono hC6.size)
  clear hw7 hv
  go_wp2_with fail
  refine (sametexts_c _ _ siL _ hv1 hv2 (by decide)).mono ?_
  rintro e8 w8 ⟨rfl, hB8⟩
  have hC8 := hC7.trans (hB8.mono hC7.size)
  go_wp2_with fail
  refine (hlv _ hC8).mono ?_
  rintro e9 w9 ⟨rfl, hB9⟩
  go_wp2
  go_ret
  exact ⟨rfl, (GoX.Calm.of_below hC8).trans hB9⟩

set_option maxRecDepth 100000 in
theorem contract (H : Type) (enc : TypeId × Value → H) (W : World) (base : Nat) (args : Array Value) (ds gs : List (DataW H)) (before : List MemPlace)
    (hval : ∀ (j : Nat) t v, Tryd.f3.params[j]? = some t → args[j]? = some v → Value.okWide Tryd.prog W .any base t v)
    (hW : DataW.Whole enc Tryd.prog Tryd.f3.params.toList Rows.lexSignsSpec.vars false W args.toList ds gs before) (hl : ∀ x ∈ tabL, x.g < 1 ∧ x.lies W) :
    Calls Tryd.prog 3 args W fun e W' => ∃ v, e = .returned v ∧ Rows.lexSignsSpec.post enc Tryd.prog Tryd.f3 false true false false W args v W' := by
  have hW' := hW
  obtain ⟨p, q, hA0, hV, rfl, hfz, hnd⟩ := hW
  have hA : DataW.TrodAll enc Tryd.prog W 0 (fun _ => true) true Tryd.f3.params.toList args.toList ds p := hA0
  rw [Tryd.params3] at hA hval
  obtain ⟨v0, vs0, d0, ds0, p0, q0, hargs, rfl, rfl, h0, r0⟩ := trodAll_cons hA
  obtain ⟨rfl, rfl, rfl⟩ := trodAll_nil r0
  obtain rfl : args = #[v0] := by cases args; simp_all
  obtain ⟨rfl, rfl⟩ := trodVars_none hV
  obtain ⟨s0, rfl, _, _, w0⟩ := open_string Tryd.underlying9 (hval 0 9 v0 rfl rfl) h0
  refine (walk s0 w0 W hl).mono fun e W' ⟨he, hg⟩ => ?_
  subst he
  exact ⟨_, rfl, GoX.post_of_calm (tb := 4) (by kernel_rfl) (by decide +kernel) Tryd.underlying4 (by kernel_rfl) rfl rfl hW' hg⟩

/-- The tables, as the row's condition lays them. -/
theorem tables {W : World} (hL : laidMetH Tryd.prog Rows.lexSignsRow.laid W) (hS : W.ShapedOpen Tryd.prog) : ∀ x ∈ tabL, x.g < 1 ∧ x.lies W := by
  obtain ⟨ps, hp, _⟩ := (show laidMet Tryd.prog Rows.lexSignsRow.laid W from hL)
  intro x hx
  simp only [tabL, List.mem_cons, List.not_mem_nil, or_false] at hx
  rcases hx with rfl
  · exact ⟨by decide, GoX.lies_var hS (name := "bridleway/lex.signs") (by kernel_rfl) (by decide +kernel) (by kernel_rfl)
      (GoX.texts_at hp 0 (ts := [[45, 91], [93, 45, 62], [60, 45, 91], [93, 45], [40], [41], [123], [125], [44], [58], [46], [124], [94], [42], [43], [63], [61], [60, 62], [60], [60, 61], [62], [62, 61]]) (g := 0) (t := 29) (e := 9) (n := 22) rfl (by kernel_rfl) (by kernel_rfl) (by kernel_rfl) (by kernel_rfl) (by kernel_rfl) (by kernel_rfl))⟩
/-- A WORLD FOR THE WITNESS: the settled one, the tables holding what their initialisers lay. -/
noncomputable def tabs : Nat → Option (Array Value)
  | 0 => some #[.string ⟨#[45, 91]⟩, .string ⟨#[93, 45, 62]⟩, .string ⟨#[60, 45, 91]⟩, .string ⟨#[93, 45]⟩, .string ⟨#[40]⟩, .string ⟨#[41]⟩, .string ⟨#[123]⟩, .string ⟨#[125]⟩, .string ⟨#[44]⟩, .string ⟨#[58]⟩, .string ⟨#[46]⟩, .string ⟨#[124]⟩, .string ⟨#[94]⟩, .string ⟨#[42]⟩, .string ⟨#[43]⟩, .string ⟨#[63]⟩, .string ⟨#[61]⟩, .string ⟨#[60, 62]⟩, .string ⟨#[60]⟩, .string ⟨#[60, 61]⟩, .string ⟨#[62]⟩, .string ⟨#[62, 61]⟩]
  | _ => none
noncomputable def laidWorld (os : Os) : World :=
  { World.holding Tryd.prog os ⟨#[], #[], []⟩ with heap := (World.holding Tryd.prog os ⟨#[], #[], []⟩).heap.mapIdx fun i o => match tabs i, o with
      | some cs, .cells _ t frozen => .cells cs t frozen
      | _, o => o }
theorem laid_met (os : Os) : laidMet Tryd.prog Rows.lexSignsRow.laid ((laidWorld os).forCall (fun _ _ => 0) ⟨#[], #[.string .empty], []⟩).memory :=
  laidMet_of_run' 8 (by kernel_rfl) (by kernel_rfl)
theorem reads (os : Os) {H : Type} (enc : TypeId × Value → H) : ∃ places, DataW.whole enc Tryd.prog ((laidWorld os).forCall (fun _ _ => 0) ⟨#[], #[.string .empty], []⟩).memory Tryd.f3.params.toList Rows.lexSignsSpec.vars false (#[.string .empty] : Array Value).toList 8 = some ([.lit (.string [])], [], places) :=
  ⟨[], by kernel_rfl⟩

set_option maxRecDepth 100000 in
theorem lifted (os : Os) (started : os.Started) (H : Type) (enc : TypeId × Value → H) (F : Stop.Interp) :
    ReturnsInHanded {} Tryd.checked os 3 .any ((OpenSpec.ofChange Rows.lexSignsSpec).preRow enc Tryd.prog Tryd.f3 Rows.lexSignsRow.domain false Rows.lexSignsRow.laid) (((OpenSpec.ofChange Rows.lexSignsSpec).at F).post enc Tryd.prog Tryd.f3 false true false false) := by
  obtain ⟨places, hx⟩ := reads os enc
  refine returnsInHanded_of_row (C := Tryd.checked) (s := OpenSpec.ofChange Rows.lexSignsSpec) own started (by kernel_rfl) Tryd.func3
    (witness_row_at (enc := enc) (C := Tryd.checked) false (laidWorld os) #[.string .empty] rfl (by kernel_rfl) (by kernel_rfl) (by kernel_rfl)
      (OpenSpec.preRow_of_cond 8 hx (by kernel_rfl) (fun k hk => by cases hk) (by kernel_rfl) (laid_met os))) ?_
  intro W base args ds gs before hval hW _ _ _ hL hS _
  exact contract H enc W base args ds gs before hval hW (tables hL hS)

/-- Whatever it is given, it answers true and leaves its arguments as they were. -/
theorem said : Rows.LexSignsSaid :=
  OpenClaim.holds_of_cond 3 Tryd.f3 rfl rfl rfl rfl rfl rfl rfl ⟨rfl, rfl, rfl, rfl, rfl⟩ rfl rfl rfl rfl rfl (by kernel_rfl) Tryd.func3 (by kernel_rfl)
    (of_decide_eq_true (by kernel_rfl)) (by unfold Func.isWrapper; first | (rw [if_pos (by decide +kernel)]; kernel_rfl) | (rw [if_neg (by decide +kernel)]; exact ⟨rfl, rfl⟩))
    (fun os started H enc _ F => by rw [OpenClaim.pre_eq_preRow]; exact lifted os started H enc F)

/-- No parameter wants a stand-in; the program's own looks are off: what the card asks. -/
theorem plain (f : FuncId) (fn : Func) (hf : Tryd.pinned.checked.prog.funcNamed "bridleway/bridlewaylaw09.LexSigns" = some f) (hfn : Tryd.pinned.checked.prog.funcs[f]? = some fn) :
    false = Tryd.pinned.checked.prog.looks [] ∧ ∀ (j : Nat) t, fn.params[j]? = some t → Tryd.pinned.checked.prog.wantsStandIn t = false := by
  obtain rfl : f = 3 := Option.some.inj ((show Tryd.prog.funcNamed "bridleway/bridlewaylaw09.LexSigns" = some 3 by kernel_rfl).symm.trans hf) |>.symm
  obtain rfl : fn = Tryd.f3 := (Option.some.inj (Tryd.func3.symm.trans hfn)).symm
  refine ⟨by kernel_rfl, fun j t ht => ?_⟩
  rw [Tryd.params3] at ht
  have hm := Array.mem_of_getElem? ht
  have h2 : t = 9 := by simpa using hm
  subst h2
  exact (show Tryd.prog.wantsStandIn 9 = false by kernel_rfl)

/-- THE CARD: whatever it is given, it answers true and leaves its arguments as they were. -/
theorem card : Rows.LexSignsCardSaid :=
  Claim7.holds_tied_plain_at .later [] _ _ _ _ said (fun _ h => by cases h) (by kernel_rfl) (fun _ h => by cases h) lexSigns_row_tie rfl ⟨rfl, rfl⟩ (by kernel_rfl) rfl plain (by kernel_rfl)
end Go.Proofs.YtfjhiaafabmpbadDoor.lexSigns
