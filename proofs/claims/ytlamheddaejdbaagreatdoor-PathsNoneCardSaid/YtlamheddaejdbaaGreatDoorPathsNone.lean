/-
  PROVED: whatever PathsNone of the module is given, it answers true, and its arguments read behind the call as they read before; on condition that the listed package-level tables hold what the program's text lays (which the card ties).
-/
import Derived.Test.YtlamheddaejdbaaGreatDoorCards
import Derived.Test.YtlamheddaejdbaaGreatDoorTie
import Derived.WalkKit
import Derived.ProofKit
import Derived.OpenShut
import Derived.ChangeMaps5
import Derived.Deep.DeepHandedRow
import Derived.Lib.LaidTab
import Derived.Test.YtlamheddaejdbaaGreatDoorXCodeG
import Derived.Test.YtlamheddaejdbaaGreatDoorOrdOrc
import Derived.Test.YtlamheddaejdbaaGreatDoorPathsNoneLaw
namespace Go.Proofs.YtlamheddaejdbaaGreatDoor.pathsNone
open Go Go.ChangeShapes Go.WideShapes Go.ChangeAt Go.RowKit
open Go.ChangeMaps (open_string)

theorem own : ownKnob Tryz.prog.godebug = none := by kernel_rfl

/-! ### The run -/
noncomputable def K := GoX.Tab.of Tryz.prog 4 [71, 158, 226, 235]
theorem K_ok : K.Ok := GoX.Tab.of_ok Tryz.prog 4 [71, 158, 226, 235] (by decide +kernel) (by decide +kernel)
theorem names : (Tryz.prog.funcs.toList.all fun fn => !(fn.name == "runtime.NumGoroutine")) = true := by decide +kernel
set_option maxRecDepth 100000 in
theorem K_named : ∀ (f : Nat) fn, K.P.funcs[f]? = some fn → (fn.name == "runtime.NumGoroutine") = false := fun f fn h => by
  have h2 := List.all_eq_true.1 names fn (by
    have : Tryz.prog.funcs[f]? = some fn := by rw [← show K.P = Tryz.prog from GoX.Tab.of_P Tryz.prog 4 [71, 158, 226, 235]]; exact h
    exact List.mem_of_getElem? (by rw [Array.getElem?_toList]; exact this))
  simpa using h2
noncomputable def tabL : List GoX.TabL := [GoX.TabL.ints 3 .u8 [0, 1, 56, 2, 57, 49, 28, 3, 61, 58, 42, 50, 38, 29, 17, 4, 62, 47, 59, 36, 45, 43, 51, 22, 53, 39, 33, 30, 24, 18, 12, 5, 63, 55, 48, 27, 60, 41, 37, 16, 46, 35, 44, 21, 52, 32, 23, 11, 54, 26, 40, 15, 34, 20, 31, 10, 25, 14, 19, 9, 13, 8, 7, 6] 318]
set_option maxRecDepth 100000 in
theorem lives_run : (GoX.denO K orcT [35] 100000 (fun n call ops => GoX.drawC K n call ops) 100 10).go [] ⟨4, GoX.tabsT tabL⟩ GoX.isTrue = true := by decide +kernel
theorem lives_c (w : World) (hl : ∀ x ∈ tabL, x.g < 4 ∧ x.lies w) : Calls Tryz.prog 10 #[] w fun e w' => e = .returned (.bool true) ∧ GoX.Calm w w' := by
  have h := GoX.true_ofO K_ok (GoX.Tab.of_ng Tryz.prog 4 [71, 158, 226, 235]) K_named (orcT_good (GoX.Tab.of_P Tryz.prog 4 [71, 158, 226, 235])) lives_run (xs := []) (by simp [GoX.concs]) w hl
  rwa [show K.P = Tryz.prog from GoX.Tab.of_P Tryz.prog 4 [71, 158, 226, 235]] at h

theorem atN_run (x : Value) (y : Value) : (GoX.denJ K [] 100000 (fun n call ops => GoX.drawC K n call ops) 100 4).go [.ptr none, .opq x, .opq y] ⟨4, GoX.tabsT tabL⟩ (fun v _ => GoX.smV 64 v (.tup [.sl none 0 (.exact 0), .bool false])) = true := by kernel_rfl
theorem atN_c (x : Value) (y : Value) (hx : x.oneCell' = true) (hy : y.oneCell' = true) (w : World) (hl : ∀ x ∈ tabL, x.g < 4 ∧ x.lies w) : Calls Tryz.prog 4 #[.pointer none, x, y] w fun e w' => e = .returned (.tuple #[.slice none 0 0, .bool false]) ∧ GoX.Calm w w' := by
  have h := GoX.val_ofT K_ok (GoX.Tab.of_ng Tryz.prog 4 _) K_named (v0 := .tup [.sl none 0 (.exact 0), .bool false]) (x0 := .tuple #[.slice none 0 0, .bool false]) (fun _ => by simp [GoX.conc, GoX.concs, GoX.concSl, GoX.concP]) (atN_run x y) (xs := [.pointer none, x, y]) (by simp [GoX.concs, GoX.conc, GoX.concP, hx, hy]) w hl
  rwa [show K.P = Tryz.prog from GoX.Tab.of_P Tryz.prog 4 _] at h
theorem rankN_run (x : Value) (y : Value) : (GoX.denJ K [] 100000 (fun n call ops => GoX.drawC K n call ops) 100 5).go [.ptr none, .opq x, .opq y] ⟨4, GoX.tabsT tabL⟩ (fun v _ => GoX.smV 64 v (.tup [.int .u64 0, .bool false])) = true := by kernel_rfl
theorem rankN_c (x : Value) (y : Value) (hx : x.oneCell' = true) (hy : y.oneCell' = true) (w : World) (hl : ∀ x ∈ tabL, x.g < 4 ∧ x.lies w) : Calls Tryz.prog 5 #[.pointer none, x, y] w fun e w' => e = .returned (.tuple #[.int .u64 0, .bool false]) ∧ GoX.Calm w w' := by
  have h := GoX.val_ofT K_ok (GoX.Tab.of_ng Tryz.prog 4 _) K_named (v0 := .tup [.int .u64 0, .bool false]) (x0 := .tuple #[.int .u64 0, .bool false]) (fun _ => by simp [GoX.conc, GoX.concs]) (rankN_run x y) (xs := [.pointer none, x, y]) (by simp [GoX.concs, GoX.conc, GoX.concP, hx, hy]) w hl
  rwa [show K.P = Tryz.prog from GoX.Tab.of_P Tryz.prog 4 _] at h
theorem nextN_run (x : Value) (y : Value) : (GoX.denJ K [] 100000 (fun n call ops => GoX.drawC K n call ops) 100 7).go [.ptr none, .opq x, .opq y] ⟨4, GoX.tabsT tabL⟩ (fun v _ => GoX.smV 64 v (.tup [.sl none 0 (.exact 0), .bool false])) = true := by kernel_rfl
theorem nextN_c (x : Value) (y : Value) (hx : x.oneCell' = true) (hy : y.oneCell' = true) (w : World) (hl : ∀ x ∈ tabL, x.g < 4 ∧ x.lies w) : Calls Tryz.prog 7 #[.pointer none, x, y] w fun e w' => e = .returned (.tuple #[.slice none 0 0, .bool false]) ∧ GoX.Calm w w' := by
  have h := GoX.val_ofT K_ok (GoX.Tab.of_ng Tryz.prog 4 _) K_named (v0 := .tup [.sl none 0 (.exact 0), .bool false]) (x0 := .tuple #[.slice none 0 0, .bool false]) (fun _ => by simp [GoX.conc, GoX.concs, GoX.concSl, GoX.concP]) (nextN_run x y) (xs := [.pointer none, x, y]) (by simp [GoX.concs, GoX.conc, GoX.concP, hx, hy]) w hl
  rwa [show K.P = Tryz.prog from GoX.Tab.of_P Tryz.prog 4 _] at h
theorem countN_run (x : Value) : (GoX.denJ K [] 100000 (fun n call ops => GoX.drawC K n call ops) 100 8).go [.ptr none, .opq x] ⟨4, GoX.tabsT tabL⟩ (fun v _ => GoX.smV 64 v (.int .u64 0)) = true := by kernel_rfl
theorem countN_c (x : Value) (hx : x.oneCell' = true) (w : World) (hl : ∀ x ∈ tabL, x.g < 4 ∧ x.lies w) : Calls Tryz.prog 8 #[.pointer none, x] w fun e w' => e = .returned (.int .u64 0) ∧ GoX.Calm w w' := by
  have h := GoX.val_ofT K_ok (GoX.Tab.of_ng Tryz.prog 4 _) K_named (v0 := .int .u64 0) (x0 := .int .u64 0) (fun _ => by simp [GoX.conc]) (countN_run x) (xs := [.pointer none, x]) (by simp [GoX.concs, GoX.conc, GoX.concP, hx]) w hl
  rwa [show K.P = Tryz.prog from GoX.Tab.of_P Tryz.prog 4 _] at h
theorem linksN_run : (GoX.denJ K [] 100000 (fun n call ops => GoX.drawC K n call ops) 100 9).go [.ptr none] ⟨4, GoX.tabsT tabL⟩ (fun v _ => GoX.smV 64 v (.sl none 0 (.exact 0))) = true := by decide +kernel
theorem linksN_c (w : World) (hl : ∀ x ∈ tabL, x.g < 4 ∧ x.lies w) : Calls Tryz.prog 9 #[.pointer none] w fun e w' => e = .returned (.slice none 0 0) ∧ GoX.Calm w w' := by
  have h := GoX.val_ofT K_ok (GoX.Tab.of_ng Tryz.prog 4 _) K_named (v0 := .sl none 0 (.exact 0)) (x0 := .slice none 0 0) (fun _ => by simp [GoX.conc, GoX.concSl, GoX.concP]) (linksN_run) (xs := [.pointer none]) (by simp [GoX.concs, GoX.conc, GoX.concP]) w hl
  rwa [show K.P = Tryz.prog from GoX.Tab.of_P Tryz.prog 4 _] at h
theorem lies_calm {x : GoX.TabL} {w w' : World} (h : x.lies w) (hc : GoX.Calm w w') : x.lies w' := (hc.block x.g (Array.getElem?_eq_some_iff.1 h).1).trans h
theorem all_calm {w w' : World} (hl : ∀ x ∈ tabL, x.g < 4 ∧ x.lies w) (hc : GoX.Calm w w') : ∀ x ∈ tabL, x.g < 4 ∧ x.lies w' := fun x hx => ⟨(hl x hx).1, lies_calm (hl x hx).2 hc⟩
theorem nones (w0 : World) (hl : ∀ x ∈ tabL, x.g < 4 ∧ x.lies w0) : Nones w0 :=
  ⟨fun x y hx hy w hc => atN_c x y hx hy w (all_calm hl hc), fun x y hx hy w hc => rankN_c x y hx hy w (all_calm hl hc), fun x y hx hy w hc => nextN_c x y hx hy w (all_calm hl hc),
    fun x hx w hc => countN_c x hx w (all_calm hl hc), fun w hc => linksN_c w (all_calm hl hc), fun w hc => lives_c w (all_calm hl hc)⟩
theorem walk (n : Int) (_ : (Lit.int .i64 n).wf = true) (k : Int) (_ : (Lit.int .u64 k).wf = true) (v : Value) (ps : List (Int × Bool)) (m : ps.length ≤ maxLen) (w : World) (hl : ∀ x ∈ tabL, x.g < 4 ∧ x.lies w) (hv : HoldsH w v ps) :
    Calls Tryz.prog 3 #[.int .i64 n, .int .u64 k, v] w fun e w' => e = .returned (.bool true) ∧ GoX.Calm w w' :=
  law_c n k v ps w hv (nones w hl) fun w hv => (hfew_c v ps w hv (by unfold maxLen at m; omega)).mono fun _ _ ⟨v', h1, h2, h3⟩ => ⟨v', h1, h2, GoX.Calm.of_below h3⟩

set_option maxRecDepth 100000 in
theorem contract (H : Type) (enc : TypeId × Value → H) (W : World) (base : Nat) (args : Array Value) (ds gs : List (DataW H)) (before : List MemPlace)
    (hval : ∀ (j : Nat) t v, Tryz.f3.params[j]? = some t → args[j]? = some v → Value.okWide Tryz.prog W .any base t v)
    (hW : DataW.Whole enc Tryz.prog Tryz.f3.params.toList Rows.pathsNoneSpec.vars false W args.toList ds gs before) (hl : ∀ x ∈ tabL, x.g < 4 ∧ x.lies W) :
    Calls Tryz.prog 3 args W fun e W' => ∃ v, e = .returned v ∧ Rows.pathsNoneSpec.post enc Tryz.prog Tryz.f3 false true false false W args v W' := by
  have hW' := hW
  obtain ⟨p, q, hA0, hV, rfl, hfz, hnd⟩ := hW
  have hA : DataW.TrodAll enc Tryz.prog W 0 (fun _ => true) true Tryz.f3.params.toList args.toList ds p := hA0
  rw [Tryz.params3] at hA hval
  obtain ⟨v0, vs0, d0, ds0, p0, q0, hargs, rfl, rfl, h0, r0⟩ := trodAll_cons hA
  obtain ⟨v1, vs1, d1, ds1, p1, q1, rfl, rfl, rfl, h1, r1⟩ := trodAll_cons r0
  obtain ⟨v2, vs2, d2, ds2, p2, q2, rfl, rfl, rfl, h2, r2⟩ := trodAll_cons r1
  obtain ⟨rfl, rfl, rfl⟩ := trodAll_nil r2
  obtain rfl : args = #[v0, v1, v2] := by cases args; simp_all
  obtain ⟨rfl, rfl⟩ := trodVars_none hV
  obtain ⟨a0, rfl, _, _, w0⟩ := open_int Tryz.underlying3 (hval 0 3 v0 rfl rfl) h0
  obtain ⟨a1, rfl, _, _, w1⟩ := open_int Tryz.underlying22 (hval 1 22 v1 rfl rfl) h1
  obtain ⟨zs2, m2, hh2⟩ := open_hops Tryz.underlying23 Tryz.underlying49 (by kernel_rfl) (by kernel_rfl) (by kernel_rfl) (by kernel_rfl) (by kernel_rfl) (by kernel_rfl) (by kernel_rfl) (hval 2 23 v2 rfl rfl) h2
  refine (walk a0 w0 a1 w1 v2 zs2 m2 W hl hh2).mono fun e W' ⟨he, hg⟩ => ?_
  subst he
  exact ⟨_, rfl, GoX.post_of_calm (tb := 4) (by kernel_rfl) (by decide +kernel) Tryz.underlying4 (by kernel_rfl) rfl rfl hW' hg⟩

/-- The tables, as the row's condition lays them. -/
theorem tables {W : World} (hL : laidMetH Tryz.prog Rows.pathsNoneRow.laid W) (hS : W.ShapedOpen Tryz.prog) : ∀ x ∈ tabL, x.g < 4 ∧ x.lies W := by
  obtain ⟨ps, hp, _⟩ := (show laidMet Tryz.prog Rows.pathsNoneRow.laid W from hL)
  intro x hx
  simp only [tabL, List.mem_cons, List.not_mem_nil, or_false] at hx
  rcases hx with rfl
  · exact ⟨by decide, GoX.lies_of hS (name := "math/bits.deBruijn64tab") (by kernel_rfl) (by decide +kernel) (by kernel_rfl)
      (GoX.tab_at hp 1 (g := 3) (t := 318) (e := 5) (n := 64) rfl (by kernel_rfl) (by kernel_rfl) (by kernel_rfl) (by kernel_rfl) (by kernel_rfl) (by kernel_rfl))⟩
/-- A WORLD FOR THE WITNESS: the settled one, the tables holding what their initialisers lay. -/
noncomputable def tabs : Nat → Option (Array Value)
  | 2 => some #[.int .u8 0, .int .u8 1, .int .u8 28, .int .u8 2, .int .u8 29, .int .u8 14, .int .u8 24, .int .u8 3, .int .u8 30, .int .u8 22, .int .u8 20, .int .u8 15, .int .u8 25, .int .u8 17, .int .u8 4, .int .u8 8, .int .u8 31, .int .u8 27, .int .u8 13, .int .u8 23, .int .u8 21, .int .u8 19, .int .u8 16, .int .u8 7, .int .u8 26, .int .u8 12, .int .u8 18, .int .u8 6, .int .u8 11, .int .u8 5, .int .u8 10, .int .u8 9]
  | 3 => some #[.int .u8 0, .int .u8 1, .int .u8 56, .int .u8 2, .int .u8 57, .int .u8 49, .int .u8 28, .int .u8 3, .int .u8 61, .int .u8 58, .int .u8 42, .int .u8 50, .int .u8 38, .int .u8 29, .int .u8 17, .int .u8 4, .int .u8 62, .int .u8 47, .int .u8 59, .int .u8 36, .int .u8 45, .int .u8 43, .int .u8 51, .int .u8 22, .int .u8 53, .int .u8 39, .int .u8 33, .int .u8 30, .int .u8 24, .int .u8 18, .int .u8 12, .int .u8 5, .int .u8 63, .int .u8 55, .int .u8 48, .int .u8 27, .int .u8 60, .int .u8 41, .int .u8 37, .int .u8 16, .int .u8 46, .int .u8 35, .int .u8 44, .int .u8 21, .int .u8 52, .int .u8 32, .int .u8 23, .int .u8 11, .int .u8 54, .int .u8 26, .int .u8 40, .int .u8 15, .int .u8 34, .int .u8 20, .int .u8 31, .int .u8 10, .int .u8 25, .int .u8 14, .int .u8 19, .int .u8 9, .int .u8 13, .int .u8 8, .int .u8 7, .int .u8 6]
  | 0 => some #[.int .u64 1, .int .u64 10, .int .u64 100, .int .u64 1000, .int .u64 10000, .int .u64 100000, .int .u64 1000000, .int .u64 10000000, .int .u64 100000000, .int .u64 1000000000, .int .u64 10000000000, .int .u64 100000000000, .int .u64 1000000000000, .int .u64 10000000000000, .int .u64 100000000000000, .int .u64 1000000000000000, .int .u64 10000000000000000, .int .u64 100000000000000000, .int .u64 1000000000000000000, .int .u64 10000000000000000000]
  | _ => none
noncomputable def laidWorld (os : Os) : World :=
  { World.holding Tryz.prog os ⟨#[], #[], []⟩ with heap := (World.holding Tryz.prog os ⟨#[], #[], []⟩).heap.mapIdx fun i o => match tabs i, o with
      | some cs, .cells _ t frozen => .cells cs t frozen
      | _, o => o }
theorem laid_met (os : Os) : laidMet Tryz.prog Rows.pathsNoneRow.laid ((laidWorld os).forCall (fun _ _ => 0) ⟨#[], #[.int .i64 0, .int .u64 0, .slice none 0 0], []⟩).memory :=
  laidMet_of_run' 8 (by kernel_rfl) (by kernel_rfl)
theorem reads (os : Os) {H : Type} (enc : TypeId × Value → H) : ∃ places, DataW.whole enc Tryz.prog ((laidWorld os).forCall (fun _ _ => 0) ⟨#[], #[.int .i64 0, .int .u64 0, .slice none 0 0], []⟩).memory Tryz.f3.params.toList Rows.pathsNoneSpec.vars false (#[.int .i64 0, .int .u64 0, .slice none 0 0] : Array Value).toList 8 = some ([.lit (.int .i64 0), .lit (.int .u64 0), .nil], [], places) :=
  ⟨[], by kernel_rfl⟩

set_option maxRecDepth 100000 in
theorem lifted (os : Os) (started : os.Started) (H : Type) (enc : TypeId × Value → H) (F : Stop.Interp) :
    ReturnsInHanded {} Tryz.checked os 3 .any ((OpenSpec.ofChange Rows.pathsNoneSpec).preRow enc Tryz.prog Tryz.f3 Rows.pathsNoneRow.domain false Rows.pathsNoneRow.laid) (((OpenSpec.ofChange Rows.pathsNoneSpec).at F).post enc Tryz.prog Tryz.f3 false true false false) := by
  obtain ⟨places, hx⟩ := reads os enc
  refine returnsInHanded_of_row (C := Tryz.checked) (s := OpenSpec.ofChange Rows.pathsNoneSpec) own started (by kernel_rfl) Tryz.func3
    (witness_row_at (enc := enc) (C := Tryz.checked) false (laidWorld os) #[.int .i64 0, .int .u64 0, .slice none 0 0] rfl (by kernel_rfl) (by kernel_rfl) (by kernel_rfl)
      (OpenSpec.preRow_of_cond 8 hx (by kernel_rfl) (fun k hk => by cases hk) (by kernel_rfl) (laid_met os))) ?_
  intro W base args ds gs before hval hW _ _ _ hL hS _
  exact contract H enc W base args ds gs before hval hW (tables hL hS)

/-- Whatever it is given, it answers true and leaves its arguments as they were. -/
theorem said : Rows.PathsNoneSaid :=
  OpenClaim.holds_of_cond 3 Tryz.f3 rfl rfl rfl rfl rfl rfl rfl ⟨rfl, rfl, rfl, rfl, rfl⟩ rfl rfl rfl rfl rfl (by kernel_rfl) Tryz.func3 (by kernel_rfl)
    (of_decide_eq_true (by kernel_rfl)) (by unfold Func.isWrapper; first | (rw [if_pos (by decide +kernel)]; kernel_rfl) | (rw [if_neg (by decide +kernel)]; exact ⟨rfl, rfl⟩))
    (fun os started H enc _ F => by rw [OpenClaim.pre_eq_preRow]; exact lifted os started H enc F)

/-- No parameter wants a stand-in; the program's own looks are off: what the card asks. -/
theorem plain (f : FuncId) (fn : Func) (hf : Tryz.pinned.checked.prog.funcNamed "bridleway/bridlewaylaw26.PathsNone" = some f) (hfn : Tryz.pinned.checked.prog.funcs[f]? = some fn) :
    false = Tryz.pinned.checked.prog.looks [] ∧ ∀ (j : Nat) t, fn.params[j]? = some t → Tryz.pinned.checked.prog.wantsStandIn t = false := by
  obtain rfl : f = 3 := Option.some.inj ((show Tryz.prog.funcNamed "bridleway/bridlewaylaw26.PathsNone" = some 3 by kernel_rfl).symm.trans hf) |>.symm
  obtain rfl : fn = Tryz.f3 := (Option.some.inj (Tryz.func3.symm.trans hfn)).symm
  refine ⟨by kernel_rfl, fun j t ht => ?_⟩
  rw [Tryz.params3] at ht
  have hm := Array.mem_of_getElem? ht
  have h2 : t = 3 ∨ t = 22 ∨ t = 23 := by simpa using hm
  rcases h2 with rfl | rfl | rfl
  · exact (show Tryz.prog.wantsStandIn 3 = false by kernel_rfl)
  · exact (show Tryz.prog.wantsStandIn 22 = false by kernel_rfl)
  · exact (show Tryz.prog.wantsStandIn 23 = false by kernel_rfl)

/-- THE CARD: whatever it is given, it answers true and leaves its arguments as they were. -/
theorem card : Rows.PathsNoneCardSaid :=
  Claim7.holds_tied_plain_at .later [] _ _ _ _ said (fun _ h => by cases h) (by kernel_rfl) (fun _ h => by cases h) pathsNone_row_tie rfl ⟨rfl, rfl⟩ (by kernel_rfl) rfl plain (by kernel_rfl)
end Go.Proofs.YtlamheddaejdbaaGreatDoor.pathsNone
