/-
  PROVED: whatever LexBack of the module is given, it answers true, and its arguments read behind the call as they read before; on condition that the listed package-level tables hold what the program's text lays (which the card ties).
-/
import Derived.Test.YtddmdieeljjamaaDoorCards
import Derived.Test.YtddmdieeljjamaaDoorTie
import Derived.WalkKit
import Derived.ProofKit
import Derived.OpenShut
import Derived.ChangeMaps5
import Derived.Deep.DeepHandedRow
import Derived.Lib.LaidTab
import Derived.Test.YtddmdieeljjamaaDoorXCodeG
import Derived.Test.YtddmdieeljjamaaDoorWBLaw
namespace Go.Proofs.YtddmdieeljjamaaDoor.lexBack
open Go Go.ChangeShapes Go.WideShapes Go.ChangeAt Go.RowKit
open Go.ChangeMaps (open_string)

theorem own : ownKnob Tryd.prog.godebug = none := by kernel_rfl

/-! ### The run -/
noncomputable def K := GoX.Tab.of Tryd.prog 3 []
theorem K_ok : K.Ok := GoX.Tab.of_ok Tryd.prog 3 [] (by simp) (by decide +kernel)
theorem names : (Tryd.prog.funcs.toList.all fun fn => !(fn.name == "runtime.NumGoroutine")) = true := by decide +kernel
set_option maxRecDepth 100000 in
theorem K_named : ∀ (f : Nat) fn, K.P.funcs[f]? = some fn → (fn.name == "runtime.NumGoroutine") = false := fun f fn h => by
  have h2 := List.all_eq_true.1 names fn (by
    have : Tryd.prog.funcs[f]? = some fn := by rw [← show K.P = Tryd.prog from GoX.Tab.of_P Tryd.prog 3 []]; exact h
    exact List.mem_of_getElem? (by rw [Array.getElem?_toList]; exact this))
  simpa using h2
noncomputable def tabL : List GoX.TabL := [GoX.TabL.texts 0 [[45, 91], [93, 45, 62], [60, 45, 91], [93, 45], [40], [41], [123], [125], [44], [58], [46], [124], [94], [42], [43], [63], [61], [60, 62], [60], [60, 61], [62], [62, 61]] 65, GoX.TabL.ints 2 .u64 [1, 10, 100, 1000, 10000, 100000, 1000000, 10000000, 100000000, 1000000000, 10000000000, 100000000000, 1000000000000, 10000000000000, 100000000000000, 1000000000000000, 10000000000000000, 100000000000000000, 1000000000000000000, 10000000000000000000] 80]
set_option maxRecDepth 100000 in
theorem lives_run : (GoX.denJ K [] 100000 (fun n call ops => GoX.drawC K n call ops) 100 6).go [] ⟨3, GoX.tabsT tabL⟩ GoX.isTrue = true := by decide +kernel
theorem lives_c (w : World) (hl : ∀ x ∈ tabL, x.g < 3 ∧ x.lies w) : Calls Tryd.prog 6 #[] w fun e w' => e = .returned (.bool true) ∧ GoX.Calm w w' := by
  have h := GoX.true_ofT K_ok (GoX.Tab.of_ng Tryd.prog 3 []) K_named lives_run (xs := []) (by simp [GoX.concs]) w hl
  rwa [show K.P = Tryd.prog from GoX.Tab.of_P Tryd.prog 3 []] at h

theorem pow_of {w : World} (h : ∀ x ∈ tabL, x.g < 3 ∧ x.lies w) : w.heap[2]? = some (.cells ((Lib.pow10Tab.map fun z => Value.int .u64 z).toArray) 80) ∧ 2 < w.heap.size := by
  have h1 := (h _ (List.mem_cons_of_mem _ (List.mem_cons_self ..))).2
  have e : ([1, 10, 100, 1000, 10000, 100000, 1000000, 10000000, 100000000, 1000000000, 10000000000, 100000000000, 1000000000000, 10000000000000, 100000000000000, 1000000000000000, 10000000000000000, 100000000000000000, 1000000000000000000, 10000000000000000000] : List Int) = Lib.pow10Tab := by decide
  simp only [GoX.TabL.lies, GoX.TabL.ints, e] at h1
  exact ⟨h1, (Array.getElem?_eq_some_iff.1 h1).1⟩
theorem sig_of {w : World} (h : ∀ x ∈ tabL, x.g < 3 ∧ x.lies w) : w.heap[0]? = some (.cells (siL.map Value.string).toArray 65) ∧ 0 < w.heap.size := by
  have h1 := (h _ (List.mem_cons_self ..)).2
  have h2 : w.heap[0]? = some (.cells (siL.map Value.string).toArray 65) := h1
  exact ⟨h2, (Array.getElem?_eq_some_iff.1 h2).1⟩
theorem walk (s : ByteArray) (_hs : s.size ≤ maxLen) (w : World) (hl : ∀ x ∈ tabL, x.g < 3 ∧ x.lies w) :
    Calls Tryd.prog 3 #[.string s] w fun e w' => e = .returned (.bool true) ∧ GoX.Calm w w' := by
  obtain ⟨h1, h0⟩ := pow_of hl
  obtain ⟨h3, h2⟩ := sig_of hl
  refine law_c s w (fun x hB k hk => ?_) (fun x hB => ?_) fun x hB => lives_c x fun y hy => ?_
  · have h4 : x.heap[0]? = some (.cells (siL.map Value.string).toArray 65) := (hB.block 0 h2).trans h3
    have := siL_at hk
    simp only [World.cell?, h4]
    simpa using this
  · have hgn : Tryd.prog.globalNamed "internal/strconv.uint64pow10" = some 2 := by kernel_rfl
    unfold Lib.TabIs World.var?
    rw [hgn, Option.bind_some, hB.block 2 h0, h1]
  · obtain ⟨hg, hy2⟩ := hl y hy
    refine ⟨hg, ?_⟩
    unfold GoX.TabL.lies at hy2 ⊢
    rw [hB.block _ (by omega)]
    exact hy2

set_option maxRecDepth 100000 in
theorem contract (H : Type) (enc : TypeId × Value → H) (W : World) (base : Nat) (args : Array Value) (ds gs : List (DataW H)) (before : List MemPlace)
    (hval : ∀ (j : Nat) t v, Tryd.f3.params[j]? = some t → args[j]? = some v → Value.okWide Tryd.prog W .any base t v)
    (hW : DataW.Whole enc Tryd.prog Tryd.f3.params.toList Rows.lexBackSpec.vars false W args.toList ds gs before) (hl : ∀ x ∈ tabL, x.g < 3 ∧ x.lies W) :
    Calls Tryd.prog 3 args W fun e W' => ∃ v, e = .returned v ∧ Rows.lexBackSpec.post enc Tryd.prog Tryd.f3 false true false false W args v W' := by
  have hW' := hW
  obtain ⟨p, q, hA0, hV, rfl, hfz, hnd⟩ := hW
  have hA : DataW.TrodAll enc Tryd.prog W 0 (fun _ => true) true Tryd.f3.params.toList args.toList ds p := hA0
  rw [Tryd.params3] at hA hval
  obtain ⟨v0, vs0, d0, ds0, p0, q0, hargs, rfl, rfl, h0, r0⟩ := trodAll_cons hA
  obtain ⟨rfl, rfl, rfl⟩ := trodAll_nil r0
  obtain rfl : args = #[v0] := by cases args; simp_all
  obtain ⟨rfl, rfl⟩ := trodVars_none hV
  obtain ⟨s0, rfl, _, _, w0⟩ := open_string Tryd.underlying9 (hval 0 9 v0 rfl rfl) h0
  refine (walk s0 w0 W hl).mono fun e W' ⟨he, hg⟩ => ?_
  subst he
  exact ⟨_, rfl, GoX.post_of_calm (tb := 4) (by kernel_rfl) (by decide +kernel) Tryd.underlying4 (by kernel_rfl) rfl rfl hW' hg⟩

/-- The tables, as the row's condition lays them. -/
theorem tables {W : World} (hL : laidMetH Tryd.prog Rows.lexBackRow.laid W) (hS : W.ShapedOpen Tryd.prog) : ∀ x ∈ tabL, x.g < 3 ∧ x.lies W := by
  obtain ⟨ps, hp, _⟩ := (show laidMet Tryd.prog Rows.lexBackRow.laid W from hL)
  intro x hx
  simp only [tabL, List.mem_cons, List.not_mem_nil, or_false] at hx
  rcases hx with rfl | rfl
  · exact ⟨by decide, GoX.lies_var hS (name := "bridleway/lex.signs") (by kernel_rfl) (by decide +kernel) (by kernel_rfl)
      (GoX.texts_at hp 3 (ts := [[45, 91], [93, 45, 62], [60, 45, 91], [93, 45], [40], [41], [123], [125], [44], [58], [46], [124], [94], [42], [43], [63], [61], [60, 62], [60], [60, 61], [62], [62, 61]]) (g := 0) (t := 65) (e := 9) (n := 22) rfl (by kernel_rfl) (by kernel_rfl) (by kernel_rfl) (by kernel_rfl) (by kernel_rfl) (by kernel_rfl))⟩
  · exact ⟨by decide, GoX.lies_of hS (name := "internal/strconv.uint64pow10") (by kernel_rfl) (by decide +kernel) (by kernel_rfl)
      (GoX.tab_at hp 2 (g := 2) (t := 80) (e := 68) (n := 20) rfl (by kernel_rfl) (by kernel_rfl) (by kernel_rfl) (by kernel_rfl) (by kernel_rfl) (by kernel_rfl))⟩
/-- A WORLD FOR THE WITNESS: the settled one, the tables holding what their initialisers lay. -/
noncomputable def tabs : Nat → Option (Array Value)
  | 3 => some #[.int .u8 0, .int .u8 1, .int .u8 28, .int .u8 2, .int .u8 29, .int .u8 14, .int .u8 24, .int .u8 3, .int .u8 30, .int .u8 22, .int .u8 20, .int .u8 15, .int .u8 25, .int .u8 17, .int .u8 4, .int .u8 8, .int .u8 31, .int .u8 27, .int .u8 13, .int .u8 23, .int .u8 21, .int .u8 19, .int .u8 16, .int .u8 7, .int .u8 26, .int .u8 12, .int .u8 18, .int .u8 6, .int .u8 11, .int .u8 5, .int .u8 10, .int .u8 9]
  | 4 => some #[.int .u8 0, .int .u8 1, .int .u8 56, .int .u8 2, .int .u8 57, .int .u8 49, .int .u8 28, .int .u8 3, .int .u8 61, .int .u8 58, .int .u8 42, .int .u8 50, .int .u8 38, .int .u8 29, .int .u8 17, .int .u8 4, .int .u8 62, .int .u8 47, .int .u8 59, .int .u8 36, .int .u8 45, .int .u8 43, .int .u8 51, .int .u8 22, .int .u8 53, .int .u8 39, .int .u8 33, .int .u8 30, .int .u8 24, .int .u8 18, .int .u8 12, .int .u8 5, .int .u8 63, .int .u8 55, .int .u8 48, .int .u8 27, .int .u8 60, .int .u8 41, .int .u8 37, .int .u8 16, .int .u8 46, .int .u8 35, .int .u8 44, .int .u8 21, .int .u8 52, .int .u8 32, .int .u8 23, .int .u8 11, .int .u8 54, .int .u8 26, .int .u8 40, .int .u8 15, .int .u8 34, .int .u8 20, .int .u8 31, .int .u8 10, .int .u8 25, .int .u8 14, .int .u8 19, .int .u8 9, .int .u8 13, .int .u8 8, .int .u8 7, .int .u8 6]
  | 2 => some #[.int .u64 1, .int .u64 10, .int .u64 100, .int .u64 1000, .int .u64 10000, .int .u64 100000, .int .u64 1000000, .int .u64 10000000, .int .u64 100000000, .int .u64 1000000000, .int .u64 10000000000, .int .u64 100000000000, .int .u64 1000000000000, .int .u64 10000000000000, .int .u64 100000000000000, .int .u64 1000000000000000, .int .u64 10000000000000000, .int .u64 100000000000000000, .int .u64 1000000000000000000, .int .u64 10000000000000000000]
  | 0 => some #[.string ⟨#[45, 91]⟩, .string ⟨#[93, 45, 62]⟩, .string ⟨#[60, 45, 91]⟩, .string ⟨#[93, 45]⟩, .string ⟨#[40]⟩, .string ⟨#[41]⟩, .string ⟨#[123]⟩, .string ⟨#[125]⟩, .string ⟨#[44]⟩, .string ⟨#[58]⟩, .string ⟨#[46]⟩, .string ⟨#[124]⟩, .string ⟨#[94]⟩, .string ⟨#[42]⟩, .string ⟨#[43]⟩, .string ⟨#[63]⟩, .string ⟨#[61]⟩, .string ⟨#[60, 62]⟩, .string ⟨#[60]⟩, .string ⟨#[60, 61]⟩, .string ⟨#[62]⟩, .string ⟨#[62, 61]⟩]
  | _ => none
noncomputable def laidWorld (os : Os) : World :=
  { World.holding Tryd.prog os ⟨#[], #[], []⟩ with heap := (World.holding Tryd.prog os ⟨#[], #[], []⟩).heap.mapIdx fun i o => match tabs i, o with
      | some cs, .cells _ t frozen => .cells cs t frozen
      | _, o => o }
theorem laid_met (os : Os) : laidMet Tryd.prog Rows.lexBackRow.laid ((laidWorld os).forCall (fun _ _ => 0) ⟨#[], #[.string .empty], []⟩).memory :=
  laidMet_of_run' 8 (by kernel_rfl) (by kernel_rfl)
theorem reads (os : Os) {H : Type} (enc : TypeId × Value → H) : ∃ places, DataW.whole enc Tryd.prog ((laidWorld os).forCall (fun _ _ => 0) ⟨#[], #[.string .empty], []⟩).memory Tryd.f3.params.toList Rows.lexBackSpec.vars false (#[.string .empty] : Array Value).toList 8 = some ([.lit (.string [])], [], places) :=
  ⟨[], by kernel_rfl⟩

set_option maxRecDepth 100000 in
theorem lifted (os : Os) (started : os.Started) (H : Type) (enc : TypeId × Value → H) (F : Stop.Interp) :
    ReturnsInHanded {} Tryd.checked os 3 .any ((OpenSpec.ofChange Rows.lexBackSpec).preRow enc Tryd.prog Tryd.f3 Rows.lexBackRow.domain false Rows.lexBackRow.laid) (((OpenSpec.ofChange Rows.lexBackSpec).at F).post enc Tryd.prog Tryd.f3 false true false false) := by
  obtain ⟨places, hx⟩ := reads os enc
  refine returnsInHanded_of_row (C := Tryd.checked) (s := OpenSpec.ofChange Rows.lexBackSpec) own started (by kernel_rfl) Tryd.func3
    (witness_row_at (enc := enc) (C := Tryd.checked) false (laidWorld os) #[.string .empty] rfl (by kernel_rfl) (by kernel_rfl) (by kernel_rfl)
      (OpenSpec.preRow_of_cond 8 hx (by kernel_rfl) (fun k hk => by cases hk) (by kernel_rfl) (laid_met os))) ?_
  intro W base args ds gs before hval hW _ _ _ hL hS _
  exact contract H enc W base args ds gs before hval hW (tables hL hS)

/-- Whatever it is given, it answers true and leaves its arguments as they were. -/
theorem said : Rows.LexBackSaid :=
  OpenClaim.holds_of_cond 3 Tryd.f3 rfl rfl rfl rfl rfl rfl rfl ⟨rfl, rfl, rfl, rfl, rfl⟩ rfl rfl rfl rfl rfl (by kernel_rfl) Tryd.func3 (by kernel_rfl)
    (of_decide_eq_true (by kernel_rfl)) (by unfold Func.isWrapper; first | (rw [if_pos (by decide +kernel)]; kernel_rfl) | (rw [if_neg (by decide +kernel)]; exact ⟨rfl, rfl⟩))
    (fun os started H enc _ F => by rw [OpenClaim.pre_eq_preRow]; exact lifted os started H enc F)

/-- No parameter wants a stand-in; the program's own looks are off: what the card asks. -/
theorem plain (f : FuncId) (fn : Func) (hf : Tryd.pinned.checked.prog.funcNamed "bridleway/bridlewaylaw09.LexBack" = some f) (hfn : Tryd.pinned.checked.prog.funcs[f]? = some fn) :
    false = Tryd.pinned.checked.prog.looks [] ∧ ∀ (j : Nat) t, fn.params[j]? = some t → Tryd.pinned.checked.prog.wantsStandIn t = false := by
  obtain rfl : f = 3 := Option.some.inj ((show Tryd.prog.funcNamed "bridleway/bridlewaylaw09.LexBack" = some 3 by kernel_rfl).symm.trans hf) |>.symm
  obtain rfl : fn = Tryd.f3 := (Option.some.inj (Tryd.func3.symm.trans hfn)).symm
  refine ⟨by kernel_rfl, fun j t ht => ?_⟩
  rw [Tryd.params3] at ht
  have hm := Array.mem_of_getElem? ht
  have h2 : t = 9 := by simpa using hm
  subst h2
  exact (show Tryd.prog.wantsStandIn 9 = false by kernel_rfl)

/-- THE CARD: whatever it is given, it answers true and leaves its arguments as they were. -/
theorem card : Rows.LexBackCardSaid :=
  Claim7.holds_tied_plain_at .later [] _ _ _ _ said (fun _ h => by cases h) (by kernel_rfl) (fun _ h => by cases h) lexBack_row_tie rfl ⟨rfl, rfl⟩ (by kernel_rfl) rfl plain (by kernel_rfl)
end Go.Proofs.YtddmdieeljjamaaDoor.lexBack
