/-
  PROVED: whatever RadixPairs of the module is given, it answers true, and its arguments read behind the call as they read before.
-/
import Derived.Test.YtfjhiaafabmpbafRows
import Derived.WalkKit
import Derived.ProofKit
import Derived.OpenShut
import Derived.ChangeMaps5
import Derived.Deep.DeepHandedRow
import Derived.Lib.LaidTab
import Derived.Test.YtfjhiaafabmpbafXCodeG
import Derived.Test.YtfjhiaafabmpbafSame
import Derived.Test.YtfjhiaafabmpbafOpenP
import Derived.Test.YtfjhiaafabmpbafPairs3
namespace Go.Proofs.Ytfjhiaafabmpbaf.radixPairs
open Go Go.ChangeShapes Go.WideShapes Go.ChangeAt Go.RowKit
open Go.ChangeMaps (open_string)

theorem own : ownKnob Try.prog.godebug = none := by kernel_rfl

/-! ### The run -/
noncomputable def K := GoX.Tab.of Try.prog 0 []
theorem K_ok : K.Ok := GoX.Tab.of_ok Try.prog 0 [] (by simp) (by decide +kernel)
theorem names : (Try.prog.funcs.toList.all fun fn => !(fn.name == "runtime.NumGoroutine")) = true := by decide +kernel
theorem K_named : ∀ (f : Nat) fn, K.P.funcs[f]? = some fn → (fn.name == "runtime.NumGoroutine") = false := fun f fn h => by
  have h2 := List.all_eq_true.1 names fn (by
    have : Try.prog.funcs[f]? = some fn := by rw [← GoX.Tab.of_P Try.prog 0 []]; exact h
    exact List.mem_of_getElem? (by rw [Array.getElem?_toList]; exact this))
  simpa using h2
noncomputable def tabL : List GoX.TabL := []
theorem lives_run : (GoX.denJ K [] 100000 (fun n call ops => GoX.drawC K n call ops) 100 12).go [] ⟨0, GoX.tabsT tabL⟩ GoX.isTrue = true := by decide +kernel
theorem lives_c (w : World) (hl : ∀ x ∈ tabL, x.g < 0 ∧ x.lies w) : Calls Try.prog 12 #[] w fun e w' => e = .returned (.bool true) ∧ GoX.Calm w w' := by
  have h := GoX.true_ofT K_ok (GoX.Tab.of_ng Try.prog 0 []) K_named lives_run (xs := []) (by simp [GoX.concs]) w hl
  rwa [show K.P = Try.prog from GoX.Tab.of_P Try.prog 0 []] at h

theorem natsV_ints (l : List Nat) : natsV l = (l.map fun (p : Nat) => (p : Int)).map (Value.int .i64) := by rw [natsV, List.map_map]; rfl
theorem wf_take {ps : List (Int × Int)} (h : WfP ps) (n : Nat) : WfP (ps.take n) := fun p hp => h p (List.mem_of_mem_take hp)
set_option maxHeartbeats 3200000 in
set_option maxRecDepth 100000 in
theorem walk (v : Value) (ps : List (Int × Int)) (hz : ps.length ≤ maxLen) (hwf : WfP ps) (w : World) (_ : ∀ x ∈ tabL, x.g < 0 ∧ x.lies w) (hv : HoldsP w v ps) :
    Calls Try.prog 3 #[v] w fun e w' => e = .returned (.bool true) ∧ GoX.Calm w w' := by
  have hlv : ∀ w, Calls Try.prog 12 #[] w fun e w' => e = .returned (.bool true) ∧ GoX.Calm w w' := fun w => lives_c w (fun x hx => by cases hx)
  unfold maxLen at hz
  have hwf := wf_take hwf 50
  have hlen : (ps.take 50).length ≤ 1000 := by rw [List.length_take]; omega
  go_enter Try.func3, Try.ntmps3
  go_wp2_with fail
  refine (pcopy_c v ps 50 w hv (by omega) (by omega)).mono ?_
  rintro e w1 ⟨x, rfl, ho, hB1⟩
  have hx := holdsP_of_owns ho
  clear ho
  have hv := hv.below hB1
  have hC := hB1
  go_wp2_with fail
  refine (pcopy_c v ps 50 w1 hv (by omega) (by omega)).mono ?_
  rintro e w2 ⟨t2, rfl, ho, hB2⟩
  have h2 := holdsP_of_owns ho
  clear ho
  have hv := hv.below hB2
  have hx := hx.below hB2
  have hC := hC.trans (hB2.mono hC.size)
  go_wp2_with fail
  refine (pairs_c t2 (ps.take 50) w2 h2 hlen hwf).mono ?_
  rintro e w3 ⟨t3, l1, rfl, hl1, ho, hB3⟩
  have h3 := holds_of_owns ho
  clear ho h2
  have hv := hv.below hB3
  have hx := hx.below hB3
  have hC := hC.trans (hB3.mono hC.size)
  go_wp2_with fail
  refine (rkeys_c x (ps.take 50) w3 hx hlen hwf).mono ?_
  rintro e w4 ⟨t4, rfl, ho, hB4⟩
  have h4 := holds_of_owns ho
  clear ho
  have hv := hv.below hB4
  have hx := hx.below hB4
  have h3 := h3.below hB4
  have hC := hC.trans (hB4.mono hC.size)
  go_wp2_with fail
  refine (rorder_c t4 (keysOf (ps.take 50)) w4 h4 (by rw [keysOf_len]; exact hlen) (keysOf_wf hwf)).mono ?_
  rintro e w5 ⟨t5, l2, rfl, hl2, ho, hB5⟩
  have h5 := holds_of_owns ho
  clear ho h4
  have hv := hv.below hB5
  have hx := hx.below hB5
  have h3 := h3.below hB5
  have hC := hC.trans (hB5.mono hC.size)
  rw [keysOf_len] at hl2
  obtain rfl := hl1.unique hl2
  have hl1l := hl1.len
  rw [natsV_ints] at h3 h5
  go_wp2_with fail
  refine (same_c _ _ _ _ w5 h3 h5 (by rw [List.length_map]; omega) (by rw [List.length_map]; omega)).mono ?_
  rintro e w6 ⟨rfl, hB6⟩
  have hv := hv.below hB6
  have hx := hx.below hB6
  have hC := hC.trans (hB6.mono hC.size)
  rw [decide_eq_true rfl]
  clear h3 h5 hl2
  go_wp2_with fail
  refine (pcopy_c v ps 50 w6 hv (by omega) (by omega)).mono ?_
  rintro e w7 ⟨t7, rfl, ho, hB7⟩
  have h7 := holdsP_of_owns ho
  clear ho hv
  have hx := hx.below hB7
  have hC := hC.trans (hB7.mono hC.size)
  go_wp2_with fail
  refine (sort_c t7 (ps.take 50) w7 h7 hlen hwf).mono ?_
  rintro e w8 ⟨t8, l3, rfl, hl3, ho, hB8⟩
  have h8 := holdsP_of_owns ho
  clear ho h7
  have hx := hx.below hB8
  have hC := hC.trans (hB8.mono hC.size)
  go_wp2_with fail
  refine (rsort_c x (ps.take 50) w8 hx hlen hwf).mono ?_
  rintro e w9 ⟨t9, l4, rfl, hl4, ho, hB9⟩
  have h9 := holdsP_of_owns ho
  clear ho hx
  have h8 := h8.below hB9
  have hC := hC.trans (hB9.mono hC.size)
  obtain rfl := hl3.unique hl4
  have hdl := ddT_len (ordP (ps.take 50) l3) (ps.take 50).length
  go_wp2_with fail
  refine (samepairs_c _ _ _ w9 h8 h9 (by omega)).mono ?_
  rintro e w10 ⟨rfl, hB10⟩
  have hC := hC.trans (hB10.mono hC.size)
  go_wp2_with fail
  refine (hlv _).mono ?_
  rintro e w11 ⟨rfl, hB11⟩
  go_wp2
  go_ret
  exact ⟨rfl, (GoX.Calm.of_below hC).trans hB11⟩

set_option maxRecDepth 100000 in
theorem contract (H : Type) (enc : TypeId × Value → H) (W : World) (base : Nat) (args : Array Value) (ds gs : List (DataW H)) (before : List MemPlace)
    (hval : ∀ (j : Nat) t v, Try.f3.params[j]? = some t → args[j]? = some v → Value.okWide Try.prog W .any base t v)
    (hW : DataW.Whole enc Try.prog Try.f3.params.toList Rows.radixPairsSpec.vars false W args.toList ds gs before) (hl : ∀ x ∈ tabL, x.g < 0 ∧ x.lies W) :
    Calls Try.prog 3 args W fun e W' => ∃ v, e = .returned v ∧ Rows.radixPairsSpec.post enc Try.prog Try.f3 false true false false W args v W' := by
  have hW' := hW
  obtain ⟨p, q, hA0, hV, rfl, hfz, hnd⟩ := hW
  have hA : DataW.TrodAll enc Try.prog W 0 (fun _ => true) true Try.f3.params.toList args.toList ds p := hA0
  rw [Try.params3] at hA hval
  obtain ⟨v0, vs0, d0, ds0, p0, q0, hargs, rfl, rfl, h0, r0⟩ := trodAll_cons hA
  obtain ⟨rfl, rfl, rfl⟩ := trodAll_nil r0
  obtain rfl : args = #[v0] := by cases args; simp_all
  obtain ⟨rfl, rfl⟩ := trodVars_none hV
  obtain ⟨zs0, m0, hh0, wf0⟩ := open_pairs Try.underlying22 Try.underlying36 (by kernel_rfl) (by kernel_rfl) (by kernel_rfl) (by kernel_rfl) (by kernel_rfl) (by kernel_rfl) (by kernel_rfl) (hval 0 22 v0 rfl rfl) h0
  refine (walk v0 zs0 m0 wf0 W hl hh0).mono fun e W' ⟨he, hg⟩ => ?_
  subst he
  exact ⟨_, rfl, GoX.post_of_calm (tb := 4) (by kernel_rfl) (by decide +kernel) Try.underlying4 (by kernel_rfl) rfl rfl hW' hg⟩

noncomputable def laidWorld (os : Os) : World := World.holding Try.prog os ⟨#[], #[], []⟩
theorem laid_met (os : Os) : laidMet Try.prog Rows.radixPairsRow.laid ((laidWorld os).forCall (fun _ _ => 0) ⟨#[], #[.slice none 0 0], []⟩).memory :=
  laidMet_of_run' 8 (by kernel_rfl) (by kernel_rfl)
theorem reads (os : Os) {H : Type} (enc : TypeId × Value → H) : ∃ places, DataW.whole enc Try.prog ((laidWorld os).forCall (fun _ _ => 0) ⟨#[], #[.slice none 0 0], []⟩).memory Try.f3.params.toList Rows.radixPairsSpec.vars false (#[.slice none 0 0] : Array Value).toList 8 = some ([.nil], [], places) :=
  ⟨[], by kernel_rfl⟩

set_option maxRecDepth 100000 in
theorem lifted (os : Os) (started : os.Started) (H : Type) (enc : TypeId × Value → H) (F : Stop.Interp) :
    ReturnsInHanded {} Try.checked os 3 .any ((OpenSpec.ofChange Rows.radixPairsSpec).preRow enc Try.prog Try.f3 Rows.radixPairsRow.domain false Rows.radixPairsRow.laid) (((OpenSpec.ofChange Rows.radixPairsSpec).at F).post enc Try.prog Try.f3 false true false false) := by
  obtain ⟨places, hx⟩ := reads os enc
  refine returnsInHanded_of_row (C := Try.checked) (s := OpenSpec.ofChange Rows.radixPairsSpec) own started (by kernel_rfl) Try.func3
    (witness_row_at (enc := enc) (C := Try.checked) false (laidWorld os) #[.slice none 0 0] rfl (by kernel_rfl) (by kernel_rfl) (by kernel_rfl)
      (OpenSpec.preRow_of_cond 8 hx (by kernel_rfl) (fun k hk => by cases hk) (by kernel_rfl) (laid_met os))) ?_
  intro W base args ds gs before hval hW _ _ _ _ _ _
  exact contract H enc W base args ds gs before hval hW (fun x hx => by cases hx)

/-- Whatever it is given, it answers true and leaves its arguments as they were. -/
theorem said : Rows.RadixPairsSaid :=
  OpenClaim.holds_of_cond 3 Try.f3 rfl rfl rfl rfl rfl rfl rfl ⟨rfl, rfl, rfl, rfl, rfl⟩ rfl rfl rfl rfl rfl (by kernel_rfl) Try.func3 (by kernel_rfl)
    (of_decide_eq_true (by kernel_rfl)) (by unfold Func.isWrapper; first | (rw [if_pos (by decide +kernel)]; kernel_rfl) | (rw [if_neg (by decide +kernel)]; exact ⟨rfl, rfl⟩))
    (fun os started H enc _ F => by rw [OpenClaim.pre_eq_preRow]; exact lifted os started H enc F)

end Go.Proofs.Ytfjhiaafabmpbaf.radixPairs
