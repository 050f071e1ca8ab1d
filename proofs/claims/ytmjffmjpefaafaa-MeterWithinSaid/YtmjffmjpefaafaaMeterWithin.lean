/-
  PROVED: whatever MeterWithin of the module is given, it answers true, and its arguments read behind the call as they read before.
-/
import Derived.Test.YtmjffmjpefaafaaRows
import Derived.WalkKit
import Derived.ProofKit
import Derived.OpenShut
import Derived.ChangeMaps5
import Derived.Deep.DeepHandedRow
import Derived.Lib.LaidTab
import Derived.Test.YtmjffmjpefaafaaXCodeG
import Derived.Test.YtmjffmjpefaafaaShelf
namespace Go.Proofs.Ytmjffmjpefaafaa.meterWithin
open Go Go.ChangeShapes Go.WideShapes Go.ChangeAt Go.RowKit
open Go.ChangeMaps (open_string)

theorem own : ownKnob Try.prog.godebug = none := by kernel_rfl

/-! ### The run -/
noncomputable def K := GoX.Tab.of Try.prog 0 []
theorem K_ok : K.Ok := GoX.Tab.of_ok Try.prog 0 [] (by simp) (by decide +kernel)
theorem names : (Try.prog.funcs.toList.all fun fn => !(fn.name == "runtime.NumGoroutine")) = true := by decide +kernel
theorem K_named : ∀ (f : Nat) fn, K.P.funcs[f]? = some fn → (fn.name == "runtime.NumGoroutine") = false := fun f fn h => by
  have h2 := List.all_eq_true.1 names fn (by
    have : Try.prog.funcs[f]? = some fn := by rw [← GoX.Tab.of_P Try.prog 0 []]; exact h
    exact List.mem_of_getElem? (by rw [Array.getElem?_toList]; exact this))
  simpa using h2
noncomputable def tabL : List GoX.TabL := []
theorem lives_run : (GoX.denJ K [] 100000 (fun n call ops => GoX.drawC K n call ops) 100 5).go [] ⟨0, GoX.tabsT tabL⟩ GoX.isTrue = true := by decide +kernel
theorem lives_c (w : World) (hl : ∀ x ∈ tabL, x.g < 0 ∧ x.lies w) : Calls Try.prog 5 #[] w fun e w' => e = .returned (.bool true) ∧ GoX.Calm w w' := by
  have h := GoX.true_ofT K_ok (GoX.Tab.of_ng Try.prog 0 []) K_named lives_run (xs := []) (by simp [GoX.concs]) w hl
  rwa [show K.P = Try.prog from GoX.Tab.of_P Try.prog 0 []] at h

theorem mul_c (x y : Nat) (hx : x < 18446744073709551616) (hy : y < 18446744073709551616) (w : World) :
    Calls Try.prog 6 #[.int .u64 x, .int .u64 y] w fun e w' => e = .returned (.tuple #[.int .u64 ((x * y / 18446744073709551616 : Nat) : Int), .int .u64 ((x * y % 18446744073709551616 : Nat) : Int)]) ∧ w' = w := Try.bits_Mul64 x y hx hy w
theorem ret_bool {a b : Bool} (h : a = b) : Ending.returned (.bool a) = Ending.returned (.bool b) := by rw [h]
def inB (n x y : Int) : Bool := decide (0 ≤ n ∧ 0 ≤ x ∧ 0 ≤ y ∧ n ≤ x * y)
theorem within_c {n x y : Int} (h0 : -9223372036854775808 ≤ n) (h1 : n ≤ 9223372036854775807) (hx0 : -9223372036854775808 ≤ x) (hx1 : x ≤ 9223372036854775807) (hy0 : -9223372036854775808 ≤ y) (hy1 : y ≤ 9223372036854775807) (w : World) :
    Calls Try.prog 4 #[.int .i64 n, .int .i64 x, .int .i64 y] w fun e w' => e = .returned (.bool (inB n x y)) ∧ w' = w := by
  by_cases h : 0 ≤ n ∧ 0 ≤ x ∧ 0 ≤ y
  · obtain ⟨hn, hx, hy⟩ := h
    have e : inB n x y = decide (n ≤ x * y) := by unfold inB; simp [hn, hx, hy]
    rw [e]
    clear e
    obtain ⟨x, rfl⟩ := Int.eq_ofNat_of_zero_le hx
    obtain ⟨y, rfl⟩ := Int.eq_ofNat_of_zero_le hy
    go_enter Try.func4, Try.ntmps4
    go_wp2_with (go_at_call 6; refine (mul_c _ _ (by omega) (by omega) _).mono ?_; rintro e w' ⟨rfl, rfl⟩)
    all_goals go_ret
    all_goals refine ⟨ret_bool ?_, rfl⟩
    · have h : (x : Int) * y / 18446744073709551616 ≤ 0 := by assumption
      have h' : 0 ≤ (x : Int) * y := Int.mul_nonneg hx hy
      revert h h'
      generalize (x : Int) * y = z
      intro h h'
      have e1 : decide (0 < z / 18446744073709551616) = false := decide_eq_false (by omega)
      have e2 : z % 18446744073709551616 = z := by omega
      rw [e1, e2]; rfl
    · have h : 0 < (x : Int) * y / 18446744073709551616 := by assumption
      revert h
      generalize (x : Int) * y = z
      intro h
      exact (decide_eq_true (by omega)).symm
  · have e : inB n x y = false := decide_eq_false (fun hh => h ⟨hh.1, hh.2.1, hh.2.2.1⟩)
    rw [e]
    by_cases hn : n < 0
    · go_enter Try.func4, Try.ntmps4
      go_wp2
      go_ret
      exact ⟨rfl, rfl⟩
    · by_cases hx : x < 0
      · go_enter Try.func4, Try.ntmps4
        go_wp2
        go_ret
        exact ⟨rfl, rfl⟩
      · have hy : y < 0 := by omega
        go_enter Try.func4, Try.ntmps4
        go_wp2
        go_ret
        exact ⟨rfl, rfl⟩
theorem walk (n : Int) (w0 : (Lit.int .i64 n).wf = true) (x : Int) (w1 : (Lit.int .i64 x).wf = true) (y : Int) (w2 : (Lit.int .i64 y).wf = true) (w : World) (hl : ∀ x ∈ tabL, x.g < 0 ∧ x.lies w) :
    Calls Try.prog 3 #[.int .i64 n, .int .i64 x, .int .i64 y] w fun e w' => e = .returned (.bool true) ∧ GoX.Calm w w' := by
  obtain ⟨a0, a1⟩ := bounds_i64 w0
  obtain ⟨b0, b1⟩ := bounds_i64 w1
  obtain ⟨c0, c1⟩ := bounds_i64 w2
  have hw := fun w => within_c a0 a1 b0 b1 c0 c1 w
  have hlv := lives_c w hl
  clear hl w0 w1 w2
  by_cases h : 0 ≤ n ∧ 0 ≤ x ∧ 0 ≤ y
  · obtain ⟨hn, hx, hy⟩ := h
    by_cases hn0 : n = 0
    · subst hn0
      have e : inB 0 x y = true := decide_eq_true ⟨by omega, hx, hy, Int.mul_nonneg hx hy⟩
      rw [e] at hw
      clear e
      go_enter Try.func3, Try.ntmps3
      go_wp2_with (first
        | (go_at_call 4; refine (hw _).mono ?_; rintro e w' ⟨rfl, rfl⟩)
        | (go_at_call 5; refine hlv.mono ?_; rintro e w' ⟨rfl, hc⟩))
      go_ret
      exact ⟨rfl, hc⟩
    · by_cases hx0 : x = 0
      · subst hx0
        have e : inB n 0 y = false := decide_eq_false (by simp; omega)
        rw [e] at hw
        clear e
        go_enter Try.func3, Try.ntmps3
        go_wp2_with (first
          | (go_at_call 4; refine (hw _).mono ?_; rintro e w' ⟨rfl, rfl⟩)
          | (go_at_call 5; refine hlv.mono ?_; rintro e w' ⟨rfl, hc⟩))
        go_ret
        exact ⟨rfl, hc⟩
      · by_cases hy0 : y = 0
        · subst hy0
          have e : inB n x 0 = false := decide_eq_false (by simp; omega)
          rw [e] at hw
          clear e
          go_enter Try.func3, Try.ntmps3
          go_wp2_with (first
            | (go_at_call 4; refine (hw _).mono ?_; rintro e w' ⟨rfl, rfl⟩)
            | (go_at_call 5; refine hlv.mono ?_; rintro e w' ⟨rfl, hc⟩))
          go_ret
          exact ⟨rfl, hc⟩
        · have e : inB n x y = decide ((n - 1) / x < y) := by
            unfold inB
            rw [decide_eq_decide]
            rw [Int.ediv_lt_iff_lt_mul (by omega), Int.mul_comm y x]
            omega
          rw [e] at hw
          clear e
          have hd0 : 0 ≤ (n - 1) / x := Int.ediv_nonneg (by omega) (by omega)
          have hd1 : (n - 1) / x ≤ n - 1 := Int.ediv_le_self _ (by omega)
          go_enter Try.func3, Try.ntmps3
          go_wp2_with (first
            | (go_at_call 4; refine (hw _).mono ?_; rintro e w' ⟨rfl, rfl⟩)
            | (go_at_call 5; refine hlv.mono ?_; rintro e w' ⟨rfl, hc⟩))
          all_goals go_ret
          all_goals exact ⟨rfl, by assumption⟩
  · have e : inB n x y = false := decide_eq_false (fun hh => h ⟨hh.1, hh.2.1, hh.2.2.1⟩)
    rw [e] at hw
    clear e
    by_cases hn : n < 0
    · go_enter Try.func3, Try.ntmps3
      go_wp2_with (first
        | (go_at_call 4; refine (hw _).mono ?_; rintro e w' ⟨rfl, rfl⟩)
        | (go_at_call 5; refine hlv.mono ?_; rintro e w' ⟨rfl, hc⟩))
      all_goals go_ret
      all_goals exact ⟨rfl, by assumption⟩
    · by_cases hx : x < 0
      · go_enter Try.func3, Try.ntmps3
        go_wp2_with (first
          | (go_at_call 4; refine (hw _).mono ?_; rintro e w' ⟨rfl, rfl⟩)
          | (go_at_call 5; refine hlv.mono ?_; rintro e w' ⟨rfl, hc⟩))
        all_goals go_ret
        all_goals exact ⟨rfl, by assumption⟩
      · have hy : y < 0 := by omega
        go_enter Try.func3, Try.ntmps3
        go_wp2_with (first
          | (go_at_call 4; refine (hw _).mono ?_; rintro e w' ⟨rfl, rfl⟩)
          | (go_at_call 5; refine hlv.mono ?_; rintro e w' ⟨rfl, hc⟩))
        all_goals go_ret
        all_goals exact ⟨rfl, by assumption⟩

set_option maxRecDepth 100000 in
theorem contract (H : Type) (enc : TypeId × Value → H) (W : World) (base : Nat) (args : Array Value) (ds gs : List (DataW H)) (before : List MemPlace)
    (hval : ∀ (j : Nat) t v, Try.f3.params[j]? = some t → args[j]? = some v → Value.okWide Try.prog W .any base t v)
    (hW : DataW.Whole enc Try.prog Try.f3.params.toList Rows.meterWithinSpec.vars false W args.toList ds gs before) (hl : ∀ x ∈ tabL, x.g < 0 ∧ x.lies W) :
    Calls Try.prog 3 args W fun e W' => ∃ v, e = .returned v ∧ Rows.meterWithinSpec.post enc Try.prog Try.f3 false true false false W args v W' := by
  have hW' := hW
  obtain ⟨p, q, hA0, hV, rfl, hfz, hnd⟩ := hW
  have hA : DataW.TrodAll enc Try.prog W 0 (fun _ => true) true Try.f3.params.toList args.toList ds p := hA0
  rw [Try.params3] at hA hval
  obtain ⟨v0, vs0, d0, ds0, p0, q0, hargs, rfl, rfl, h0, r0⟩ := trodAll_cons hA
  obtain ⟨v1, vs1, d1, ds1, p1, q1, rfl, rfl, rfl, h1, r1⟩ := trodAll_cons r0
  obtain ⟨v2, vs2, d2, ds2, p2, q2, rfl, rfl, rfl, h2, r2⟩ := trodAll_cons r1
  obtain ⟨rfl, rfl, rfl⟩ := trodAll_nil r2
  obtain rfl : args = #[v0, v1, v2] := by cases args; simp_all
  obtain ⟨rfl, rfl⟩ := trodVars_none hV
  obtain ⟨a0, rfl, _, _, w0⟩ := open_int Try.underlying3 (hval 0 3 v0 rfl rfl) h0
  obtain ⟨a1, rfl, _, _, w1⟩ := open_int Try.underlying3 (hval 1 3 v1 rfl rfl) h1
  obtain ⟨a2, rfl, _, _, w2⟩ := open_int Try.underlying3 (hval 2 3 v2 rfl rfl) h2
  refine (walk a0 w0 a1 w1 a2 w2 W hl).mono fun e W' ⟨he, hg⟩ => ?_
  subst he
  exact ⟨_, rfl, GoX.post_of_calm (tb := 4) (by kernel_rfl) (by decide +kernel) Try.underlying4 (by kernel_rfl) rfl rfl hW' hg⟩

noncomputable def laidWorld (os : Os) : World := World.holding Try.prog os ⟨#[], #[], []⟩
theorem laid_met (os : Os) : laidMet Try.prog Rows.meterWithinRow.laid ((laidWorld os).forCall (fun _ _ => 0) ⟨#[], #[.int .i64 0, .int .i64 0, .int .i64 0], []⟩).memory :=
  laidMet_of_run' 8 (by kernel_rfl) (by kernel_rfl)
theorem reads (os : Os) {H : Type} (enc : TypeId × Value → H) : ∃ places, DataW.whole enc Try.prog ((laidWorld os).forCall (fun _ _ => 0) ⟨#[], #[.int .i64 0, .int .i64 0, .int .i64 0], []⟩).memory Try.f3.params.toList Rows.meterWithinSpec.vars false (#[.int .i64 0, .int .i64 0, .int .i64 0] : Array Value).toList 8 = some ([.lit (.int .i64 0), .lit (.int .i64 0), .lit (.int .i64 0)], [], places) :=
  ⟨[], by kernel_rfl⟩

set_option maxRecDepth 100000 in
theorem lifted (os : Os) (started : os.Started) (H : Type) (enc : TypeId × Value → H) (F : Stop.Interp) :
    ReturnsInHanded {} Try.checked os 3 .any ((OpenSpec.ofChange Rows.meterWithinSpec).preRow enc Try.prog Try.f3 Rows.meterWithinRow.domain false Rows.meterWithinRow.laid) (((OpenSpec.ofChange Rows.meterWithinSpec).at F).post enc Try.prog Try.f3 false true false false) := by
  obtain ⟨places, hx⟩ := reads os enc
  refine returnsInHanded_of_row (C := Try.checked) (s := OpenSpec.ofChange Rows.meterWithinSpec) own started (by kernel_rfl) Try.func3
    (witness_row_at (enc := enc) (C := Try.checked) false (laidWorld os) #[.int .i64 0, .int .i64 0, .int .i64 0] rfl (by kernel_rfl) (by kernel_rfl) (by kernel_rfl)
      (OpenSpec.preRow_of_cond 8 hx (by kernel_rfl) (fun k hk => by cases hk) (by kernel_rfl) (laid_met os))) ?_
  intro W base args ds gs before hval hW _ _ _ _ _ _
  exact contract H enc W base args ds gs before hval hW (fun x hx => by cases hx)

/-- Whatever it is given, it answers true and leaves its arguments as they were. -/
theorem said : Rows.MeterWithinSaid :=
  OpenClaim.holds_of_cond 3 Try.f3 rfl rfl rfl rfl rfl rfl rfl ⟨rfl, rfl, rfl, rfl, rfl⟩ rfl rfl rfl rfl rfl (by kernel_rfl) Try.func3 (by kernel_rfl)
    (of_decide_eq_true (by kernel_rfl)) (by unfold Func.isWrapper; first | (rw [if_pos (by decide +kernel)]; kernel_rfl) | (rw [if_neg (by decide +kernel)]; exact ⟨rfl, rfl⟩))
    (fun os started H enc _ F => by rw [OpenClaim.pre_eq_preRow]; exact lifted os started H enc F)

end Go.Proofs.Ytmjffmjpefaafaa.meterWithin
