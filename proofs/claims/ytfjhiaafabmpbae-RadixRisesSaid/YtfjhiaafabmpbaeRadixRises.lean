/-
  PROVED: whatever RadixRises of the module is given, it answers true, and its arguments read behind the call as they read before.
-/
import Derived.Test.YtfjhiaafabmpbaeRows
import Derived.WalkKit
import Derived.ProofKit
import Derived.OpenShut
import Derived.ChangeMaps5
import Derived.Deep.DeepHandedRow
import Derived.Lib.LaidTab
import Derived.Test.YtfjhiaafabmpbaeXCodeG
import Derived.Test.YtfjhiaafabmpbaeMerge
import Derived.Test.YtfjhiaafabmpbaeSameU
namespace Go.Proofs.Ytfjhiaafabmpbae.radixRises
open Go Go.ChangeShapes Go.WideShapes Go.ChangeAt Go.RowKit
open Go.ChangeMaps (open_string)

theorem own : ownKnob Try.prog.godebug = none := by kernel_rfl

/-! ### The run -/
noncomputable def K := GoX.Tab.of Try.prog 0 []
theorem K_ok : K.Ok := GoX.Tab.of_ok Try.prog 0 [] (by simp) (by decide +kernel)
theorem names : (Try.prog.funcs.toList.all fun fn => !(fn.name == "runtime.NumGoroutine")) = true := by decide +kernel
theorem K_named : ∀ (f : Nat) fn, K.P.funcs[f]? = some fn → (fn.name == "runtime.NumGoroutine") = false := fun f fn h => by
  have h2 := List.all_eq_true.1 names fn (by
    have : Try.prog.funcs[f]? = some fn := by rw [← GoX.Tab.of_P Try.prog 0 []]; exact h
    exact List.mem_of_getElem? (by rw [Array.getElem?_toList]; exact this))
  simpa using h2
noncomputable def tabL : List GoX.TabL := []
theorem lives_run : (GoX.denJ K [] 100000 (fun n call ops => GoX.drawC K n call ops) 100 12).go [] ⟨0, GoX.tabsT tabL⟩ GoX.isTrue = true := by decide +kernel
theorem lives_c (w : World) (hl : ∀ x ∈ tabL, x.g < 0 ∧ x.lies w) : Calls Try.prog 12 #[] w fun e w' => e = .returned (.bool true) ∧ GoX.Calm w w' := by
  have h := GoX.true_ofT K_ok (GoX.Tab.of_ng Try.prog 0 []) K_named lives_run (xs := []) (by simp [GoX.concs]) w hl
  rwa [show K.P = Try.prog from GoX.Tab.of_P Try.prog 0 []] at h

theorem take_all {l : List Int} {n : Nat} (h : l.length ≤ n) : l.take n = l := List.take_of_length_le h
theorem bool_same {r : Bool} {p q : Prop} [Decidable q] (h : r = true ↔ p) (hq : q ↔ p) : (r == decide q) = true := by
  cases r
  · have : ¬ q := fun hh => by have := h.2 (hq.1 hh); cases this
    simp [this]
  · have : q := hq.2 (h.1 rfl)
    simp [this]
set_option maxHeartbeats 3200000 in
set_option maxRecDepth 100000 in
theorem walk (va : Value) (as0 : List Int) (hza : as0.length ≤ maxLen) (_ : ∀ z ∈ as0, (Lit.int .u64 z).wf = true) (vb : Value) (bs0 : List Int) (hzb : bs0.length ≤ maxLen) (_ : ∀ z ∈ bs0, (Lit.int .u64 z).wf = true) (key : Int) (_ : (Lit.int .u64 key).wf = true)
    (w : World) (_ : ∀ x ∈ tabL, x.g < 0 ∧ x.lies w) (hva : Holds w va (as0.map (Value.int .u64))) (hvb : Holds w vb (bs0.map (Value.int .u64))) :
    Calls Try.prog 3 #[va, vb, .int .u64 key] w fun e w' => e = .returned (.bool true) ∧ GoX.Calm w w' := by
  have hlv : ∀ w, Calls Try.prog 12 #[] w fun e w' => e = .returned (.bool true) ∧ GoX.Calm w w' := fun w => lives_c w (fun x hx => by cases hx)
  unfold maxLen at hza hzb

  obtain ⟨i0, hi, hz0, hz1, hz2⟩ := info_parts infoU
  go_enter Try.func3, Try.ntmps3
  have hC : Below w.heap.size w w := Below.refl _ _
  go_wp2_with fail
  refine (fewu_c _ as0 30 w hva (by omega) (by omega)).mono ?_
  rintro e w1 ⟨a, rfl, ho, hB1⟩
  replace hva := hva.below hB1
  replace hvb := hvb.below hB1
  replace hC := hC.trans (hB1.mono hC.size)
  have ha := sl_of_owns ho
  clear ho
  go_wp2_with fail
  refine (fewu_c _ bs0 30 w1 hvb (by omega) (by omega)).mono ?_
  rintro e w2 ⟨b, rfl, ho, hB2⟩
  replace hva := hva.below hB2
  replace hvb := hvb.below hB2
  replace ha := ha.below hB2
  replace hC := hC.trans (hB2.mono hC.size)
  have hb := sl_of_owns ho
  clear ho hva hvb
  have hal : (as0.take 30).length ≤ 30 := by rw [List.length_take]; omega
  have hbl : (bs0.take 30).length ≤ 30 := by rw [List.length_take]; omega
  generalize as0.take 30 = xs at *
  generalize bs0.take 30 = ys at *
  go_wp2_with fail
  refine (rise_c _ xs w2 ha.holds (by omega)).mono ?_
  rintro e w3 ⟨x, rfl, ho, hB3⟩
  replace ha := ha.below hB3
  replace hb := hb.below hB3
  replace hC := hC.trans (hB3.mono hC.size)
  have hx := sl_of_owns ho
  clear ho
  go_wp2_with fail
  refine (rise_c _ ys w3 hb.holds (by omega)).mono ?_
  rintro e w4 ⟨y, rfl, ho, hB4⟩
  replace ha := ha.below hB4
  replace hb := hb.below hB4
  replace hx := hx.below hB4
  replace hC := hC.trans (hB4.mono hC.size)
  have hy := sl_of_owns ho
  clear ho
  have hXl := Nat.le_trans (rise_len xs) hal
  have hYl := Nat.le_trans (rise_len ys) hbl
  have hXr := rise_rises xs
  have hYr := rise_rises ys
  have hsame : Hid (xs = rise xs ↔ Rises xs) := ⟨fun h => (rise_same xs).1 h.symm, fun h => ((rise_same xs).2 h).symm⟩
  generalize rise xs = X at *
  generalize rise ys = Y at *
  obtain ⟨ax, nx, cx, rfl⟩ := sl_form hx
  go_wp2
  go_loop [9] (fun i => ∃ n : Nat, i = .int .i64 n ∧ n ≤ X.length ∧ Hid (∀ j, j < n → X.getD j 0 < key)) (fun i => X.length - (intOf i).toNat)
  case atStart => exact ⟨0, rfl, Nat.zero_le _, fun j hj => by omega⟩
  case round =>
    obtain ⟨n, rfl, hn, hlow⟩ := hrel
    obtain ⟨hnx, hcx⟩ := sl_len hx
    have hnx1 : nx ≤ X.length := by omega
    have hnx2 : X.length ≤ nx := by omega
    clear hnx
    by_cases hlt : n < X.length
    · obtain ⟨bx, ox, rfl, hbx, hcc⟩ : ∃ b off, ax = some ⟨b, off, none⟩ ∧ b < w4.heap.size ∧ w4.cell? ⟨b, off + n, none⟩ = some (.int .u64 (X.getD n 0)) := by
        obtain ⟨a', c', h1, h2⟩ := hx.holds
        simp only [Value.slice.injEq] at h1
        obtain ⟨rfl, _, rfl⟩ := h1
        exact row_at h2 hlt
      by_cases hk : X.getD n 0 < key
      · have hlow2 : Hid (∀ j, j < n + 1 → X.getD j 0 < key) := fun j hj => by
          rcases Nat.lt_or_ge j n with h | h
          · exact hlow.out j h
          · obtain rfl : j = n := by omega
            exact hk
        have hd : decide (X.getD n 0 < key) = true := decide_eq_true hk
        clear hlow
        generalize X.getD n 0 = xn at *
        go_wp2
        go_round
        case rel => exact ⟨n + 1, by go_num, by omega, hlow2.out⟩
        case measure => simp [intOf]; omega
      · have hIs : Hid (IsLow X key n) := ⟨hn, hlow.out, fun _ => hk⟩
        have hd : decide (X.getD n 0 < key) = false := decide_eq_false hk
        clear hlow
        generalize X.getD n 0 = xn at *
        go_wp2_with fail
        refine (fewu_c _ X 30 w4 hx.holds (by omega) (by omega)).mono ?_
        rintro e w5 ⟨t1, rfl, ho, hB5⟩
        replace ha := ha.below hB5
        replace hb := hb.below hB5
        replace hx := hx.below hB5
        replace hy := hy.below hB5
        replace hC := hC.trans (hB5.mono hC.size)
        rw [take_all hXl] at ho
        have h1 := sl_of_owns ho
        clear ho
        go_wp2_with fail
        refine (lower_c _ X key w5 h1.holds (by omega) hXr).mono ?_
        rintro e w6 ⟨m, rfl, hm, hw6⟩
        obtain rfl := IsLow.unique hm hIs.out
        subst hw6
        clear hm hIs h1
        go_wp2_with fail
        refine (fewu_c _ X 30 w6 hx.holds (by omega) (by omega)).mono ?_
        rintro e w7 ⟨t2, rfl, ho, hB7⟩
        replace ha := ha.below hB7
        replace hb := hb.below hB7
        replace hx := hx.below hB7
        replace hy := hy.below hB7
        replace hC := hC.trans (hB7.mono hC.size)
        rw [take_all hXl] at ho
        have h1 := sl_of_owns ho
        clear ho
        go_wp2_with fail
        refine (fewu_c _ Y 30 w7 hy.holds (by omega) (by omega)).mono ?_
        rintro e w8 ⟨t3, rfl, ho, hB8⟩
        replace ha := ha.below hB8
        replace hb := hb.below hB8
        replace hx := hx.below hB8
        replace hy := hy.below hB8
        replace h1 := h1.below hB8
        replace hC := hC.trans (hB8.mono hC.size)
        rw [take_all hYl] at ho
        have h2 := sl_of_owns ho
        clear ho
        go_wp2_with fail
        refine (merge_c _ _ X Y w8 h1 h2 (by omega) (by omega)).mono ?_
        rintro e w9 ⟨t4, rfl, ho, hB9⟩
        replace ha := ha.below hB9
        replace hb := hb.below hB9
        replace hx := hx.below hB9
        replace hy := hy.below hB9
        replace h1 := h1.below hB9
        replace h2 := h2.below hB9
        replace hC := hC.trans (hB9.mono hC.size)
        have h3 := sl_of_owns ho
        clear ho h1 h2
        rw [mrg_rise X Y hXr hYr] at h3
        have hcX := u64_cells X
        have hcY := u64_cells Y
        go_wp2_with (first
          | (at_builtin; refine wpList_appW (by first | rfl | (simp [Region.wanted, yielded])) _ _ 22 rfl w9.heap.size 23 i0 (.int .u64 0) 8 Try.underlying22 hi hz0 hz1 hz2 rfl (by rfl) (World.ownsRow_made w9 #[] 0 (Nat.le_refl _) (by unfold maxLen; omega) rfl) (by rfl) (hx.alloc _) hcX (by simp; unfold maxLen; omega) (by simp; omega) (by simp) ?_; intro v1 W1 hown1 hgrow1 hsm1; have hG1 := ((Below.refl w9.heap.size w9).alloc (Nat.le_refl _) _).grown hgrow1 (by simp) (fun j hj => by cases hj; simp))
          | (at_builtin; refine wpList_appW (by first | rfl | (simp [Region.wanted, yielded])) _ _ 22 rfl w9.heap.size 23 i0 (.int .u64 0) 8 Try.underlying22 hi hz0 hz1 hz2 rfl (by rfl) hown1 (by rfl) (hy.below hG1) hcY (by simp; unfold maxLen; omega) (by simp; omega) hG1.size ?_; intro v2 W2 hown2 hgrow2 hsm2; have hG2 := hG1.grown hgrow2 hG1.size (fun j hj => (hown1.lt j hj).1))
          | fail)
        replace ha := ha.below hG2
        replace hb := hb.below hG2
        replace hx := hx.below hG2
        replace hy := hy.below hG2
        replace h3 := h3.below hG2
        replace hC := hC.trans (hG2.mono hC.size)
        have h4 := sl_of_owns hown2
        rw [List.nil_append, ← List.map_append] at h4
        clear hown1 hown2 hgrow1 hgrow2 hG1 hG2
        go_wp2_with fail
        refine (rise_c _ (X ++ Y) W2 h4.holds (by rw [List.length_append]; omega)).mono ?_
        rintro e w10 ⟨t5, rfl, ho, hB10⟩
        replace ha := ha.below hB10
        replace hb := hb.below hB10
        replace hx := hx.below hB10
        replace hy := hy.below hB10
        replace h3 := h3.below hB10
        replace h4 := h4.below hB10
        replace hC := hC.trans (hB10.mono hC.size)
        have h5 := sl_of_owns ho
        clear ho h4
        have hRl : (rise (X ++ Y)).length ≤ 60 := Nat.le_trans (rise_len _) (by rw [List.length_append]; omega)
        generalize rise (X ++ Y) = Z at *
        go_wp2_with fail
        refine (sameu_c _ _ Z Z w10 h3.holds h5.holds (by omega) (by omega)).mono ?_
        rintro e w11 ⟨rfl, hB11⟩
        replace ha := ha.below hB11
        replace hb := hb.below hB11
        replace hx := hx.below hB11
        replace hy := hy.below hB11
        replace h3 := h3.below hB11
        replace h5 := h5.below hB11
        replace hC := hC.trans (hB11.mono hC.size)
        rw [decide_eq_true (rfl : Z = Z)]
        clear h3 h5
        go_wp2_with fail
        refine (fewu_c _ X 30 w11 hx.holds (by omega) (by omega)).mono ?_
        rintro e w12 ⟨t6, rfl, ho, hB12⟩
        replace ha := ha.below hB12
        replace hb := hb.below hB12
        replace hx := hx.below hB12
        replace hy := hy.below hB12
        replace hC := hC.trans (hB12.mono hC.size)
        rw [take_all hXl] at ho
        have h1 := sl_of_owns ho
        clear ho
        go_wp2_with fail
        refine (fewu_c _ Y 30 w12 hy.holds (by omega) (by omega)).mono ?_
        rintro e w13 ⟨t7, rfl, ho, hB13⟩
        replace ha := ha.below hB13
        replace hb := hb.below hB13
        replace hx := hx.below hB13
        replace hy := hy.below hB13
        replace h1 := h1.below hB13
        replace hC := hC.trans (hB13.mono hC.size)
        rw [take_all hYl] at ho
        have h2 := sl_of_owns ho
        clear ho
        go_wp2_with fail
        refine (common_c _ _ X Y w13 h1 h2 (by omega) (by omega)).mono ?_
        rintro e w14 ⟨t8, rfl, ho, hB14⟩
        replace ha := ha.below hB14
        replace hb := hb.below hB14
        replace hx := hx.below hB14
        replace hy := hy.below hB14
        replace h1 := h1.below hB14
        replace h2 := h2.below hB14
        replace hC := hC.trans (hB14.mono hC.size)
        have h3 := sl_of_owns ho
        clear ho h1 h2
        rw [com_common X Y hXr hYr] at h3
        go_wp2_with fail
        refine (rcommon_c _ _ X Y w14 hx.holds hy.holds (by omega) (by omega)).mono ?_
        rintro e w15 ⟨t9, rfl, ho, hB15⟩
        replace ha := ha.below hB15
        replace hb := hb.below hB15
        replace hx := hx.below hB15
        replace hy := hy.below hB15
        replace h3 := h3.below hB15
        replace hC := hC.trans (hB15.mono hC.size)
        have h4 := sl_of_owns ho
        clear ho
        have hFl : (X.filter fun x => decide (x ∈ Y)).length ≤ 30 := Nat.le_trans (List.length_filter_le _ _) hXl
        generalize (X.filter fun x => decide (x ∈ Y)) = Z2 at *
        go_wp2_with fail
        refine (sameu_c _ _ Z2 Z2 w15 h3.holds h4.holds (by omega) (by omega)).mono ?_
        rintro e w16 ⟨rfl, hB16⟩
        replace ha := ha.below hB16
        replace hb := hb.below hB16
        replace hx := hx.below hB16
        replace hy := hy.below hB16
        replace h3 := h3.below hB16
        replace h4 := h4.below hB16
        replace hC := hC.trans (hB16.mono hC.size)
        rw [decide_eq_true (rfl : Z2 = Z2)]
        clear h3 h4
        go_wp2_with fail
        refine (fewu_c _ xs 30 w16 ha.holds (by omega) (by omega)).mono ?_
        rintro e w17 ⟨t10, rfl, ho, hB17⟩
        replace ha := ha.below hB17
        replace hb := hb.below hB17
        replace hx := hx.below hB17
        replace hy := hy.below hB17
        replace hC := hC.trans (hB17.mono hC.size)
        rw [take_all hal] at ho
        have h1 := sl_of_owns ho
        clear ho
        go_wp2_with fail
        refine (rising_c _ xs w17 h1.holds (by omega)).mono ?_
        rintro e w18 ⟨r1, rfl, hr1, hB18⟩
        replace ha := ha.below hB18
        replace hb := hb.below hB18
        replace hx := hx.below hB18
        replace hy := hy.below hB18
        replace h1 := h1.below hB18
        replace hC := hC.trans (hB18.mono hC.size)
        clear h1
        go_wp2_with fail
        refine (sameu_c _ _ xs X w18 ha.holds hx.holds (by omega) (by omega)).mono ?_
        rintro e w19 ⟨rfl, hB19⟩
        replace ha := ha.below hB19
        replace hb := hb.below hB19
        replace hx := hx.below hB19
        replace hy := hy.below hB19
        replace hC := hC.trans (hB19.mono hC.size)
        have hbs := bool_same hr1 hsame.out
        clear hr1 hsame
        generalize decide (xs = X) = r2 at *
        go_wp2_with fail
        refine (rising_c _ X w19 hx.holds (by omega)).mono ?_
        rintro e w20 ⟨r3, rfl, hr3, hB20⟩
        replace ha := ha.below hB20
        replace hb := hb.below hB20
        replace hx := hx.below hB20
        replace hy := hy.below hB20
        replace hC := hC.trans (hB20.mono hC.size)
        obtain rfl : r3 = true := hr3.2 hXr
        go_wp2_with fail
        refine (hlv w20).mono ?_
        rintro e wz ⟨rfl, hBz⟩
        go_wp2
        go_ret
        exact ⟨rfl, (GoX.Calm.of_below hC).trans hBz⟩
    · obtain rfl : n = X.length := by omega
      have hIs : Hid (IsLow X key X.length) := ⟨hn, hlow.out, fun h => absurd h hlt⟩
      clear hlow
      go_wp2_with fail
      refine (fewu_c _ X 30 w4 hx.holds (by omega) (by omega)).mono ?_
      rintro e w5 ⟨t1, rfl, ho, hB5⟩
      replace ha := ha.below hB5
      replace hb := hb.below hB5
      replace hx := hx.below hB5
      replace hy := hy.below hB5
      replace hC := hC.trans (hB5.mono hC.size)
      rw [take_all hXl] at ho
      have h1 := sl_of_owns ho
      clear ho
      go_wp2_with fail
      refine (lower_c _ X key w5 h1.holds (by omega) hXr).mono ?_
      rintro e w6 ⟨m, rfl, hm, hw6⟩
      obtain rfl := IsLow.unique hm hIs.out
      subst hw6
      clear hm hIs h1
      go_wp2_with fail
      refine (fewu_c _ X 30 w6 hx.holds (by omega) (by omega)).mono ?_
      rintro e w7 ⟨t2, rfl, ho, hB7⟩
      replace ha := ha.below hB7
      replace hb := hb.below hB7
      replace hx := hx.below hB7
      replace hy := hy.below hB7
      replace hC := hC.trans (hB7.mono hC.size)
      rw [take_all hXl] at ho
      have h1 := sl_of_owns ho
      clear ho
      go_wp2_with fail
      refine (fewu_c _ Y 30 w7 hy.holds (by omega) (by omega)).mono ?_
      rintro e w8 ⟨t3, rfl, ho, hB8⟩
      replace ha := ha.below hB8
      replace hb := hb.below hB8
      replace hx := hx.below hB8
      replace hy := hy.below hB8
      replace h1 := h1.below hB8
      replace hC := hC.trans (hB8.mono hC.size)
      rw [take_all hYl] at ho
      have h2 := sl_of_owns ho
      clear ho
      go_wp2_with fail
      refine (merge_c _ _ X Y w8 h1 h2 (by omega) (by omega)).mono ?_
      rintro e w9 ⟨t4, rfl, ho, hB9⟩
      replace ha := ha.below hB9
      replace hb := hb.below hB9
      replace hx := hx.below hB9
      replace hy := hy.below hB9
      replace h1 := h1.below hB9
      replace h2 := h2.below hB9
      replace hC := hC.trans (hB9.mono hC.size)
      have h3 := sl_of_owns ho
      clear ho h1 h2
      rw [mrg_rise X Y hXr hYr] at h3
      have hcX := u64_cells X
      have hcY := u64_cells Y
      go_wp2_with (first
        | (at_builtin; refine wpList_appW (by first | rfl | (simp [Region.wanted, yielded])) _ _ 22 rfl w9.heap.size 23 i0 (.int .u64 0) 8 Try.underlying22 hi hz0 hz1 hz2 rfl (by rfl) (World.ownsRow_made w9 #[] 0 (Nat.le_refl _) (by unfold maxLen; omega) rfl) (by rfl) (hx.alloc _) hcX (by simp; unfold maxLen; omega) (by simp; omega) (by simp) ?_; intro v1 W1 hown1 hgrow1 hsm1; have hG1 := ((Below.refl w9.heap.size w9).alloc (Nat.le_refl _) _).grown hgrow1 (by simp) (fun j hj => by cases hj; simp))
        | (at_builtin; refine wpList_appW (by first | rfl | (simp [Region.wanted, yielded])) _ _ 22 rfl w9.heap.size 23 i0 (.int .u64 0) 8 Try.underlying22 hi hz0 hz1 hz2 rfl (by rfl) hown1 (by rfl) (hy.below hG1) hcY (by simp; unfold maxLen; omega) (by simp; omega) hG1.size ?_; intro v2 W2 hown2 hgrow2 hsm2; have hG2 := hG1.grown hgrow2 hG1.size (fun j hj => (hown1.lt j hj).1))
        | fail)
      replace ha := ha.below hG2
      replace hb := hb.below hG2
      replace hx := hx.below hG2
      replace hy := hy.below hG2
      replace h3 := h3.below hG2
      replace hC := hC.trans (hG2.mono hC.size)
      have h4 := sl_of_owns hown2
      rw [List.nil_append, ← List.map_append] at h4
      clear hown1 hown2 hgrow1 hgrow2 hG1 hG2
      go_wp2_with fail
      refine (rise_c _ (X ++ Y) W2 h4.holds (by rw [List.length_append]; omega)).mono ?_
      rintro e w10 ⟨t5, rfl, ho, hB10⟩
      replace ha := ha.below hB10
      replace hb := hb.below hB10
      replace hx := hx.below hB10
      replace hy := hy.below hB10
      replace h3 := h3.below hB10
      replace h4 := h4.below hB10
      replace hC := hC.trans (hB10.mono hC.size)
      have h5 := sl_of_owns ho
      clear ho h4
      have hRl : (rise (X ++ Y)).length ≤ 60 := Nat.le_trans (rise_len _) (by rw [List.length_append]; omega)
      generalize rise (X ++ Y) = Z at *
      go_wp2_with fail
      refine (sameu_c _ _ Z Z w10 h3.holds h5.holds (by omega) (by omega)).mono ?_
      rintro e w11 ⟨rfl, hB11⟩
      replace ha := ha.below hB11
      replace hb := hb.below hB11
      replace hx := hx.below hB11
      replace hy := hy.below hB11
      replace h3 := h3.below hB11
      replace h5 := h5.below hB11
      replace hC := hC.trans (hB11.mono hC.size)
      rw [decide_eq_true (rfl : Z = Z)]
      clear h3 h5
      go_wp2_with fail
      refine (fewu_c _ X 30 w11 hx.holds (by omega) (by omega)).mono ?_
      rintro e w12 ⟨t6, rfl, ho, hB12⟩
      replace ha := ha.below hB12
      replace hb := hb.below hB12
      replace hx := hx.below hB12
      replace hy := hy.below hB12
      replace hC := hC.trans (hB12.mono hC.size)
      rw [take_all hXl] at ho
      have h1 := sl_of_owns ho
      clear ho
      go_wp2_with fail
      refine (fewu_c _ Y 30 w12 hy.holds (by omega) (by omega)).mono ?_
      rintro e w13 ⟨t7, rfl, ho, hB13⟩
      replace ha := ha.below hB13
      replace hb := hb.below hB13
      replace hx := hx.below hB13
      replace hy := hy.below hB13
      replace h1 := h1.below hB13
      replace hC := hC.trans (hB13.mono hC.size)
      rw [take_all hYl] at ho
      have h2 := sl_of_owns ho
      clear ho
      go_wp2_with fail
      refine (common_c _ _ X Y w13 h1 h2 (by omega) (by omega)).mono ?_
      rintro e w14 ⟨t8, rfl, ho, hB14⟩
      replace ha := ha.below hB14
      replace hb := hb.below hB14
      replace hx := hx.below hB14
      replace hy := hy.below hB14
      replace h1 := h1.below hB14
      replace h2 := h2.below hB14
      replace hC := hC.trans (hB14.mono hC.size)
      have h3 := sl_of_owns ho
      clear ho h1 h2
      rw [com_common X Y hXr hYr] at h3
      go_wp2_with fail
      refine (rcommon_c _ _ X Y w14 hx.holds hy.holds (by omega) (by omega)).mono ?_
      rintro e w15 ⟨t9, rfl, ho, hB15⟩
      replace ha := ha.below hB15
      replace hb := hb.below hB15
      replace hx := hx.below hB15
      replace hy := hy.below hB15
      replace h3 := h3.below hB15
      replace hC := hC.trans (hB15.mono hC.size)
      have h4 := sl_of_owns ho
      clear ho
      have hFl : (X.filter fun x => decide (x ∈ Y)).length ≤ 30 := Nat.le_trans (List.length_filter_le _ _) hXl
      generalize (X.filter fun x => decide (x ∈ Y)) = Z2 at *
      go_wp2_with fail
      refine (sameu_c _ _ Z2 Z2 w15 h3.holds h4.holds (by omega) (by omega)).mono ?_
      rintro e w16 ⟨rfl, hB16⟩
      replace ha := ha.below hB16
      replace hb := hb.below hB16
      replace hx := hx.below hB16
      replace hy := hy.below hB16
      replace h3 := h3.below hB16
      replace h4 := h4.below hB16
      replace hC := hC.trans (hB16.mono hC.size)
      rw [decide_eq_true (rfl : Z2 = Z2)]
      clear h3 h4
      go_wp2_with fail
      refine (fewu_c _ xs 30 w16 ha.holds (by omega) (by omega)).mono ?_
      rintro e w17 ⟨t10, rfl, ho, hB17⟩
      replace ha := ha.below hB17
      replace hb := hb.below hB17
      replace hx := hx.below hB17
      replace hy := hy.below hB17
      replace hC := hC.trans (hB17.mono hC.size)
      rw [take_all hal] at ho
      have h1 := sl_of_owns ho
      clear ho
      go_wp2_with fail
      refine (rising_c _ xs w17 h1.holds (by omega)).mono ?_
      rintro e w18 ⟨r1, rfl, hr1, hB18⟩
      replace ha := ha.below hB18
      replace hb := hb.below hB18
      replace hx := hx.below hB18
      replace hy := hy.below hB18
      replace h1 := h1.below hB18
      replace hC := hC.trans (hB18.mono hC.size)
      clear h1
      go_wp2_with fail
      refine (sameu_c _ _ xs X w18 ha.holds hx.holds (by omega) (by omega)).mono ?_
      rintro e w19 ⟨rfl, hB19⟩
      replace ha := ha.below hB19
      replace hb := hb.below hB19
      replace hx := hx.below hB19
      replace hy := hy.below hB19
      replace hC := hC.trans (hB19.mono hC.size)
      have hbs := bool_same hr1 hsame.out
      clear hr1 hsame
      generalize decide (xs = X) = r2 at *
      go_wp2_with fail
      refine (rising_c _ X w19 hx.holds (by omega)).mono ?_
      rintro e w20 ⟨r3, rfl, hr3, hB20⟩
      replace ha := ha.below hB20
      replace hb := hb.below hB20
      replace hx := hx.below hB20
      replace hy := hy.below hB20
      replace hC := hC.trans (hB20.mono hC.size)
      obtain rfl : r3 = true := hr3.2 hXr
      go_wp2_with fail
      refine (hlv w20).mono ?_
      rintro e wz ⟨rfl, hBz⟩
      go_wp2
      go_ret
      exact ⟨rfl, (GoX.Calm.of_below hC).trans hBz⟩

set_option maxRecDepth 100000 in
theorem contract (H : Type) (enc : TypeId × Value → H) (W : World) (base : Nat) (args : Array Value) (ds gs : List (DataW H)) (before : List MemPlace)
    (hval : ∀ (j : Nat) t v, Try.f3.params[j]? = some t → args[j]? = some v → Value.okWide Try.prog W .any base t v)
    (hW : DataW.Whole enc Try.prog Try.f3.params.toList Rows.radixRisesSpec.vars false W args.toList ds gs before) (hl : ∀ x ∈ tabL, x.g < 0 ∧ x.lies W) :
    Calls Try.prog 3 args W fun e W' => ∃ v, e = .returned v ∧ Rows.radixRisesSpec.post enc Try.prog Try.f3 false true false false W args v W' := by
  have hW' := hW
  obtain ⟨p, q, hA0, hV, rfl, hfz, hnd⟩ := hW
  have hA : DataW.TrodAll enc Try.prog W 0 (fun _ => true) true Try.f3.params.toList args.toList ds p := hA0
  rw [Try.params3] at hA hval
  obtain ⟨v0, vs0, d0, ds0, p0, q0, hargs, rfl, rfl, h0, r0⟩ := trodAll_cons hA
  obtain ⟨v1, vs1, d1, ds1, p1, q1, rfl, rfl, rfl, h1, r1⟩ := trodAll_cons r0
  obtain ⟨v2, vs2, d2, ds2, p2, q2, rfl, rfl, rfl, h2, r2⟩ := trodAll_cons r1
  obtain ⟨rfl, rfl, rfl⟩ := trodAll_nil r2
  obtain rfl : args = #[v0, v1, v2] := by cases args; simp_all
  obtain ⟨rfl, rfl⟩ := trodVars_none hV
  obtain ⟨zs0, n0, rfl, hh0, m0, wf0⟩ := open_row Try.underlying22 Try.underlying23 (by kernel_rfl) (hval 0 22 v0 rfl rfl) h0 (fun _ => rfl)
  obtain ⟨zs1, n1, rfl, hh1, m1, wf1⟩ := open_row Try.underlying22 Try.underlying23 (by kernel_rfl) (hval 1 22 v1 rfl rfl) h1 (fun _ => rfl)
  obtain ⟨a2, rfl, _, _, w2⟩ := open_int Try.underlying23 (hval 2 23 v2 rfl rfl) h2
  refine (walk v0 zs0 m0 wf0 v1 zs1 m1 wf1 a2 w2 W hl hh0 hh1).mono fun e W' ⟨he, hg⟩ => ?_
  subst he
  exact ⟨_, rfl, GoX.post_of_calm (tb := 4) (by kernel_rfl) (by decide +kernel) Try.underlying4 (by kernel_rfl) rfl rfl hW' hg⟩

noncomputable def laidWorld (os : Os) : World := World.holding Try.prog os ⟨#[], #[], []⟩
theorem laid_met (os : Os) : laidMet Try.prog Rows.radixRisesRow.laid ((laidWorld os).forCall (fun _ _ => 0) ⟨#[], #[.slice none 0 0, .slice none 0 0, .int .u64 0], []⟩).memory :=
  laidMet_of_run' 8 (by kernel_rfl) (by kernel_rfl)
theorem reads (os : Os) {H : Type} (enc : TypeId × Value → H) : ∃ places, DataW.whole enc Try.prog ((laidWorld os).forCall (fun _ _ => 0) ⟨#[], #[.slice none 0 0, .slice none 0 0, .int .u64 0], []⟩).memory Try.f3.params.toList Rows.radixRisesSpec.vars false (#[.slice none 0 0, .slice none 0 0, .int .u64 0] : Array Value).toList 8 = some ([.nil, .nil, .lit (.int .u64 0)], [], places) :=
  ⟨[], by kernel_rfl⟩

set_option maxRecDepth 100000 in
theorem lifted (os : Os) (started : os.Started) (H : Type) (enc : TypeId × Value → H) (F : Stop.Interp) :
    ReturnsInHanded {} Try.checked os 3 .any ((OpenSpec.ofChange Rows.radixRisesSpec).preRow enc Try.prog Try.f3 Rows.radixRisesRow.domain false Rows.radixRisesRow.laid) (((OpenSpec.ofChange Rows.radixRisesSpec).at F).post enc Try.prog Try.f3 false true false false) := by
  obtain ⟨places, hx⟩ := reads os enc
  refine returnsInHanded_of_row (C := Try.checked) (s := OpenSpec.ofChange Rows.radixRisesSpec) own started (by kernel_rfl) Try.func3
    (witness_row_at (enc := enc) (C := Try.checked) false (laidWorld os) #[.slice none 0 0, .slice none 0 0, .int .u64 0] rfl (by kernel_rfl) (by kernel_rfl) (by kernel_rfl)
      (OpenSpec.preRow_of_cond 8 hx (by kernel_rfl) (fun k hk => by cases hk) (by kernel_rfl) (laid_met os))) ?_
  intro W base args ds gs before hval hW _ _ _ _ _ _
  exact contract H enc W base args ds gs before hval hW (fun x hx => by cases hx)

/-- Whatever it is given, it answers true and leaves its arguments as they were. -/
theorem said : Rows.RadixRisesSaid :=
  OpenClaim.holds_of_cond 3 Try.f3 rfl rfl rfl rfl rfl rfl rfl ⟨rfl, rfl, rfl, rfl, rfl⟩ rfl rfl rfl rfl rfl (by kernel_rfl) Try.func3 (by kernel_rfl)
    (of_decide_eq_true (by kernel_rfl)) (by unfold Func.isWrapper; first | (rw [if_pos (by decide +kernel)]; kernel_rfl) | (rw [if_neg (by decide +kernel)]; exact ⟨rfl, rfl⟩))
    (fun os started H enc _ F => by rw [OpenClaim.pre_eq_preRow]; exact lifted os started H enc F)

end Go.Proofs.Ytfjhiaafabmpbae.radixRises
