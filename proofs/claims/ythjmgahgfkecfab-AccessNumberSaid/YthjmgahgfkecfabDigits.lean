/-
  THE NUMBERS THAT ARE A NUMBER BY SIZES, AND BACK: product, Digits, Number and the reference's Product, by contract.
-/
import Derived.Test.YthjmgahgfkecfabTimes
import Derived.Test.YthjmgahgfkecfabFewU
import Derived.Test.YthjmgahgfkecfabSl
import Derived.BigQuiet
namespace Go.Proofs.Ythjmgahgfkecfab
open Go.ChangeShapes Go.WideShapes Go.ChangeAt Go.RowKit

theorem hidden {p : Prop} (h : p) : Hid p := h
theorem wf_u64 {zs : List Int} (h : ∀ z ∈ zs, (Lit.int .u64 z).wf = true) : ∀ z ∈ zs, 0 ≤ z ∧ z ≤ 18446744073709551615 := fun z hz => bounds_u64 (h z hz)
theorem wrap2 (m d : Int) : IntKind.u64.wrap (IntKind.u64.wrap m + d) = (m + d) % 18446744073709551616 := by
  rw [IntKind.wrap_u64, IntKind.wrap_u64]; omega
theorem prodS_take (zs : List Int) {k : Nat} (hk : k < zs.length) : prodS (zs.take (k + 1)) = mulS (prodS (zs.take k)) (zs.getD k 0) := by
  rw [take_snocI zs k hk, prodS_snoc]

set_option maxHeartbeats 800000 in
set_option maxRecDepth 100000 in
theorem prod_c (v : Value) (zs : List Int) (w : World) (hv : Holds w v (zs.map (Value.int .u64))) (hz : zs.length ≤ 1000) (hb : ∀ z ∈ zs, 0 ≤ z ∧ z ≤ 18446744073709551615) :
    Calls Try.prog 10 #[v] w fun e w' => e = .returned (.int .u64 (prodS zs)) ∧ w' = w := by
  obtain ⟨a, cap, rfl, hrow⟩ := hv
  rw [List.length_map]
  go_enter Try.func10, Try.ntmps10
  go_wp2
  go_loop [3, 5, 8, 9, 10, 11, 12, 13, 14, 15] (fun p _ i _ _ _ _ _ _ _ => ∃ k : Nat, k ≤ zs.length ∧ i = .int .i64 k ∧ p = .int .u64 (prodS (zs.take k)))
    (fun _ _ i _ _ _ _ _ _ _ => zs.length - (intOf i).toNat)
  case atStart => exact ⟨0, Nat.zero_le _, rfl, rfl⟩
  case round =>
    obtain ⟨k, hk, rfl, rfl⟩ := hrel
    by_cases hlt : k < zs.length
    · rcases hrow with h0 | ⟨b, off, rfl, hb0, hc⟩
      · simp only [List.map_eq_nil_iff] at h0; subst h0; simp at hlt
      have hcx : w.cell? ⟨b, off + k, none⟩ = some (.int .u64 (zs.getD k 0)) := hc k _ (by simp [hlt])
      have hbk := hb (zs.getD k 0) (by simp [List.getD, hlt])
      have hlo := prodS_lo (zs := zs.take k) fun z hz => (hb z (List.mem_of_mem_take hz)).1
      have hhi := prodS_hi (zs.take k)
      have hst := prodS_take zs hlt
      have ht := fun w => times_c hlo (by omega) hbk.1 hbk.2 w
      obtain ⟨p', hp'⟩ : ∃ p', Hid (p' = prodS (zs.take (k + 1))) := ⟨_, (rfl : _ = _)⟩
      rw [← hst, ← hp'.out] at ht
      clear hst hc hlo hhi hbk hb
      generalize zs.getD k 0 = z at *
      generalize prodS (zs.take k) = p at *
      go_wp2_with (go_at_call 17; refine (ht _).mono ?_; rintro e w' ⟨rfl, rfl⟩)
      go_round
      case rel => exact ⟨k + 1, by omega, by go_num, by rw [hp'.out]⟩
      case measure => simp [intOf]; omega
    · obtain rfl : k = zs.length := by omega
      rw [List.take_length]
      go_wp2
      go_ret
      exact ⟨rfl, rfl⟩

set_option maxHeartbeats 800000 in
set_option maxRecDepth 100000 in
theorem rprod_c (v : Value) (zs : List Int) (w : World) (hv : Holds w v (zs.map (Value.int .u64))) (hz : zs.length ≤ 1000) (hb : ∀ z ∈ zs, 0 ≤ z ∧ z ≤ 18446744073709551615) :
    Calls Try.prog 6 #[v] w fun e w' => e = .returned (.int .u64 (prodS zs)) ∧ w' = w := by
  obtain ⟨a, cap, rfl, hrow⟩ := hv
  rw [List.length_map]
  go_enter Try.func6, Try.ntmps6
  go_wp2
  go_loop [3, 4, 5, 6, 7, 8, 9, 10, 11, 12, 13, 14, 15, 16] (fun p i _ _ _ _ _ _ _ _ _ _ _ _ => ∃ k : Nat, k ≤ zs.length ∧ i = .int .i64 k ∧ p = .int .u64 (prodS (zs.take k)))
    (fun _ i _ _ _ _ _ _ _ _ _ _ _ _ => zs.length - (intOf i).toNat)
  case atStart => exact ⟨0, Nat.zero_le _, rfl, rfl⟩
  case round =>
    obtain ⟨k, hk, rfl, rfl⟩ := hrel
    by_cases hlt : k < zs.length
    · rcases hrow with h0 | ⟨b, off, rfl, hb0, hc⟩
      · simp only [List.map_eq_nil_iff] at h0; subst h0; simp at hlt
      have hcx : w.cell? ⟨b, off + k, none⟩ = some (.int .u64 (zs.getD k 0)) := hc k _ (by simp [hlt])
      have hbk := hb (zs.getD k 0) (by simp [List.getD, hlt])
      have hlo := prodS_lo (zs := zs.take k) fun z hz => (hb z (List.mem_of_mem_take hz)).1
      have hhi := prodS_hi (zs.take k)
      have hst := prodS_take zs hlt
      have ht := fun w => rtimes_c hlo (by omega) hbk.1 hbk.2 w
      obtain ⟨p', hp'⟩ : ∃ p', Hid (p' = prodS (zs.take (k + 1))) := ⟨_, (rfl : _ = _)⟩
      rw [← hst, ← hp'.out] at ht
      clear hst hc hlo hhi hbk hb
      generalize zs.getD k 0 = z at *
      generalize prodS (zs.take k) = p at *
      go_wp2_with (go_at_call 11; refine (ht _).mono ?_; rintro e w' ⟨rfl, rfl⟩)
      go_round
      case rel => exact ⟨k + 1, by omega, by go_num, by rw [hp'.out]⟩
      case measure => simp [intOf]; omega
    · obtain rfl : k = zs.length := by omega
      rw [List.take_length]
      go_wp2
      go_ret
      exact ⟨rfl, rfl⟩

set_option maxRecDepth 100000 in
set_option maxHeartbeats 800000 in
theorem cloneu_c (v : Value) (zs : List Int) (w : World) (hv : Sl w v (zs.map (Value.int .u64))) (hl : zs.length ≤ 1000) :
    Calls Try.prog 16 #[v] w fun e w' =>
      ∃ v', e = .returned v' ∧ w'.ownsRow w.heap.size 24 1 v' zs.length (zs.map (Value.int .u64)) ∧ Below w.heap.size w w' := by
  obtain ⟨i0, hi, hz0, hz1, hz2⟩ := info_parts infoU
  have hsl := hidden hv
  obtain ⟨a, cap, rfl, h1, h2, h3, h4⟩ := hv
  rw [List.length_map] at h1 hsl ⊢
  cases a with
  | none =>
    obtain rfl := h2 rfl
    obtain rfl : zs = [] := by
      cases zs with
      | nil => rfl
      | cons => simp at h1
    have hne : ∀ x : World, Sem.run Try.prog (binOp BinOp.eql 22 (.slice none 0 0) (.slice none 0 0)) x = .ok (.bool true) x := fun x => by rfl
    clear hsl h4
    go_enter Try.func16, Try.ntmps16
    go_wp2
    go_ret
    exact ⟨_, rfl, ⟨rfl, .inl ⟨rfl, rfl⟩⟩, Below.refl _ _⟩
  | some p =>
    obtain ⟨g, og, o⟩ := p
    obtain rfl := h3 _ rfl
    have hne : ∀ x : World, Sem.run Try.prog (binOp BinOp.eql 22 (.slice (some ⟨g, og, none⟩) zs.length cap) (.slice none 0 0)) x = .ok (.bool false) x := fun x => by rfl
    clear h1 h2 h3 h4
    go_enter Try.func16, Try.ntmps16
    have hw := (Below.refl w.heap.size w).alloc (Nat.le_refl _) (.cells #[] 24)
    have hown := World.ownsRow_made (base := w.heap.size) (e := 24) (size := 1) w #[] 0 (Nat.le_refl _) (by unfold maxLen; omega) rfl
    have hsz : w.heap.size ≤ (w.alloc (.cells #[] 24)).heap.size := hw.size
    have hc1 : ∀ u ∈ zs.map (Value.int .u64), u.oneCell' = true := fun u hu => by simp at hu; obtain ⟨z, _, rfl⟩ := hu; rfl
    have hll : (zs.map (Value.int .u64)).length = zs.length := by simp
    replace hw := hidden hw
    replace hown := hidden hown
    replace hsz := hidden hsz
    replace hll := hidden hll
    go_wp2_with (at_builtin; refine wpList_app rfl _ _ 22 rfl w.heap.size 24 i0 (.int .u64 0) 8 Try.underlying22 hi hz0 hz1 hz2 rfl (by rfl) hown.out (by rfl) (hsl.out.below hw.out) hc1 (by rw [hll.out]; unfold maxLen; omega) (by rw [hll.out]; omega) hsz.out ?_; intro v1 w1 hown1 hgrow1 _)
    have hfb := hidden (hw.out.grown hgrow1 hsz.out (fun j hj => (hown.out.lt j hj).1))
    have hfin := hidden hown1
    clear hown1 hgrow1 hw hown hsz
    go_wp2
    go_ret
    exact ⟨_, rfl, by have h := hfin.out; rw [hll.out, Nat.zero_add] at h; exact h, hfb.out⟩

set_option maxHeartbeats 1600000 in
set_option maxRecDepth 100000 in
theorem digits_c (k : Int) (v : Value) (zs : List Int) (w : World) (hv : Sl w v (zs.map (Value.int .u64))) (hz : zs.length ≤ 1000) (hb : ∀ z ∈ zs, 0 ≤ z ∧ z ≤ 18446744073709551615) (hk0 : 0 ≤ k) :
    Calls Try.prog 8 #[.int .u64 k, v] w fun e w' => ∃ v' ok, e = .returned (.tuple #[v', .bool ok]) ∧ Below w.heap.size w w' ∧
      ((ok = false ∧ v' = .slice none 0 0 ∧ (prodS zs = 4611686018427387904 ∨ prodS zs ≤ k)) ∨
       (ok = true ∧ k < prodS zs ∧ prodS zs < 4611686018427387904 ∧ w'.ownsRow w.heap.size 24 1 v' zs.length ((digs k zs).map (Value.int .u64)))) := by
  have hp := fun w' hh => prod_c v zs w' hh hz hb
  have hlo := prodS_lo (zs := zs) fun z hz => (hb z hz).1
  have hhi := prodS_hi zs
  have hsm := prodS_small (zs := zs) fun z hz => (hb z hz).1
  by_cases hg : prodS zs = 4611686018427387904 ∨ prodS zs ≤ k
  · have hgh : Hid (prodS zs = 4611686018427387904 ∨ prodS zs ≤ k) := hg
    have hgb : (prodS zs == 4611686018427387904 || decide (prodS zs ≤ k)) = true := by simpa using hg
    have hvh := hidden hv.holds
    clear hsm hv
    generalize prodS zs = p at *
    go_enter Try.func8, Try.ntmps8
    by_cases h1 : p = 4611686018427387904
    · subst h1
      go_wp2_with (go_at_call 10; refine (hp _ hvh.out).mono ?_; rintro e w' ⟨rfl, rfl⟩)
      go_ret2
      all_goals first | exact ⟨_, _, rfl, Below.refl _ _, .inl ⟨rfl, rfl, hgh.out⟩⟩ | exact ⟨rfl, Below.refl _ _⟩
    · have h2 : p ≤ k := by omega
      clear hg hgb
      go_wp2_with (go_at_call 10; refine (hp _ hvh.out).mono ?_; rintro e w' ⟨rfl, rfl⟩)
      go_ret2
      exact ⟨_, _, rfl, Below.refl _ _, .inl ⟨rfl, rfl, hgh.out⟩⟩
  · have hp1 : ¬ prodS zs = 4611686018427387904 := fun h => hg (.inl h)
    have hp2 : k < prodS zs := by omega
    obtain ⟨hone, he⟩ := hsm (by omega) (by omega)
    have hfin1 : Hid (k < prodS zs ∧ prodS zs < 4611686018427387904) := ⟨hp2, by omega⟩
    have hkm : k < 4611686018427387904 := by omega
    have hvh := hidden hv.holds
    have hcl := fun w' (h : Sl w' v (zs.map (Value.int .u64))) => cloneu_c v zs w' h hz
    have hvs := hidden hv
    obtain ⟨a, cap, rfl, _, _, _, hrow⟩ := hv
    rw [List.length_map] at *
    have hone' : Hid (∀ z ∈ zs, 1 ≤ z) := hone
    have hbb : Hid (∀ z ∈ zs, 0 ≤ z ∧ z ≤ 18446744073709551615) := hb
    clear hg hsm he hone hb hhi hlo
    generalize prodS zs = p at *
    have hg1 : (p == 4611686018427387904) = false := by simp [hp1]
    have hg2 : decide (p ≤ k) = false := by simp; omega
    clear hp1 hp2
    go_enter Try.func8, Try.ntmps8
    go_wp2_with fail
    refine (hp _ hvh.out).mono ?_
    rintro e w0 ⟨rfl, rfl⟩
    go_wp2_with fail
    refine (hcl _ hvs.out).mono ?_
    rintro e w1 ⟨v1, rfl, hown, hB⟩
    obtain ⟨a1, c1, rfl, -⟩ := holds_of_owns hown
    rw [List.length_map] at *
    replace hown : w1.ownsRow w0.heap.size 24 1 (.slice a1 zs.length c1) zs.length (digRow k zs zs.length) := by rw [digRow_start]; exact hown
    have hend : Hid (k / tl zs zs.length = k) := quo_end k zs
    clear hp hcl hvs hvh
    go_wp2
    go_loopw [0, 8] (fun u i wr => ∃ j : Nat, j ≤ zs.length ∧ i = .int .i64 ((j : Int) - 1) ∧ u = .int .u64 (k / tl zs j) ∧ wr.ownsRow w0.heap.size 24 1 (.slice a1 zs.length c1) zs.length (digRow k zs j) ∧ Below w0.heap.size w0 wr)
      (fun _ i _ => (intOf i + 1).toNat)
    case atStart => exact ⟨zs.length, Nat.le_refl _, rfl, by rw [hend.out], hown, hB⟩
    case round =>
      obtain ⟨j, hj, rfl, rfl, hown, hnx⟩ := hrel
      cases j with
      | zero =>
        rw [digRow_end] at hown
        go_wp2
        go_ret2
        exact ⟨_, _, rfl, hnx, .inr ⟨rfl, hfin1.out.1, hfin1.out.2, hown⟩⟩
      | succ j =>
        have hlt : j < zs.length := hj
        rcases hrow with h0 | ⟨b, off, rfl, hb0, hc⟩
        · simp only [List.map_eq_nil_iff] at h0; subst h0; simp at hlt
        obtain ⟨g, rfl, hg⟩ : ∃ g, a1 = some ⟨g, 0, none⟩ ∧ w0.heap.size ≤ g := by
          rcases hown.2 with ⟨h, h'⟩ | ⟨g, _, _, h, hg, _⟩
          · have := hown.1; rw [h'] at this; simp at this; omega
          · cases h; exact ⟨g, rfl, hg⟩
        have hcx : wr.cell? ⟨b, off + j, none⟩ = some (.int .u64 (zs.getD j 0)) := (hnx.cell (by exact hb0)).trans (hc j _ (by simp [hlt]))
        have hcy : ∀ u, (wr.setCell ⟨g, j, none⟩ u).cell? ⟨b, off + j, none⟩ = some (.int .u64 (zs.getD j 0)) := fun u => ((hnx.setCell hg u).cell (by exact hb0)).trans (hc j _ (by simp [hlt]))
        have hcs1 : ∃ u, wr.cell? ⟨g, j, none⟩ = some u := ⟨_, by rw [hown.cellAt j (by omega)]; exact List.getElem?_eq_getElem (by rw [digRow_len]; omega)⟩
        obtain ⟨u1, hcs1⟩ := hcs1
        have hfr : wr.frozen? ⟨g, j, none⟩ = false := hown.frozenAt j
        have hst := hown.stored j (.int .u64 (dig k zs j))
        rw [digRow_set] at hst
        have hz1 := getD_one hone'.out hlt
        have hz2 := (hbb.out (zs.getD j 0) (by simp [List.getD, hlt])).2
        have hq := quo_step (k := k) hone'.out hlt
        have hq0 := quo_lo hk0 hone'.out (j + 1)
        have hq1 := quo_hi hk0 zs (j + 1)
        have hB2 := fun u => hidden (hnx.setCell hg (p := ⟨g, j, none⟩) u)
        replace hst := hidden hst.1
        unfold dig at hst
        clear hc hown hnx
        have hji : ((j + 1 : Nat) : Int) - 1 = j := by omega
        rw [hji] at *
        clear hji
        replace hq := hidden hq
        generalize k / tl zs (j + 1) = q at *
        generalize zs.getD j 0 = z at *
        go_wp2
        go_roundw
        case rel => exact ⟨j, by omega, by go_num, by rw [hq.out], hst.out, (hB2 _).out⟩
        case measure => simp [intOf]

open Classical in
noncomputable def numV (ds zs : List Int) : Value :=
  if ds.length = zs.length ∧ prodS zs ≠ 4611686018427387904 ∧ Fits ds zs zs.length then .tuple #[.int .u64 (num ds zs zs.length), .bool true] else .tuple #[.int .u64 0, .bool false]
theorem numV_good {ds zs : List Int} (h1 : ds.length = zs.length) (h2 : prodS zs ≠ 4611686018427387904) (h3 : Fits ds zs zs.length) : numV ds zs = .tuple #[.int .u64 (num ds zs zs.length), .bool true] := if_pos ⟨h1, h2, h3⟩
theorem numV_bad {ds zs : List Int} (h : ¬ (ds.length = zs.length ∧ prodS zs ≠ 4611686018427387904 ∧ Fits ds zs zs.length)) : numV ds zs = .tuple #[.int .u64 0, .bool false] := if_neg h
set_option maxHeartbeats 1600000 in
set_option maxRecDepth 100000 in
/-- Number, of any lists. -/
theorem number_c (va vb : Value) (ds zs : List Int) (w : World) (hva : Holds w va (ds.map (Value.int .u64))) (hvb : Holds w vb (zs.map (Value.int .u64))) (hzd : ds.length ≤ 1000) (hz : zs.length ≤ 1000)
    (hb : ∀ z ∈ zs, 0 ≤ z ∧ z ≤ 18446744073709551615) :
    Calls Try.prog 5 #[va, vb] w fun e w' => e = .returned (numV ds zs) ∧ w' = w := by
  have hp := fun w' hh => prod_c vb zs w' hh hz hb
  have hvh := hidden hvb
  obtain ⟨a, cap, rfl, hra⟩ := hva
  obtain ⟨b, cap', rfl, hrb⟩ := hvb
  rw [List.length_map] at *
  by_cases hl : ds.length = zs.length
  · by_cases hpm : prodS zs = 4611686018427387904
    · have hfin : Hid (prodS zs = 4611686018427387904) := hpm
      rw [hpm] at hp
      have hl1 : ((ds.length : Int) != (zs.length : Int)) = false := by simp [hl]
      clear hpm hb
      go_enter Try.func5, Try.ntmps5
      go_wp2_with (go_at_call 10; refine (hp _ hvh.out).mono ?_; rintro e w' ⟨rfl, rfl⟩)
      go_ret2
      exact ⟨by rw [numV_bad fun h => h.2.1 hfin.out]; rfl, rfl⟩
    · have hfin : Hid (prodS zs ≠ 4611686018427387904) := hpm
      obtain ⟨p, hpp⟩ : ∃ p, Hid (p = prodS zs) := ⟨_, (rfl : _ = _)⟩
      rw [← hpp.out] at hp hpm
      have hg1 : (p == 4611686018427387904) = false := by simp [hpm]
      have hl1 : ((ds.length : Int) != (zs.length : Int)) = false := by simp [hl]
      have hlh : Hid (ds.length = zs.length) := hl
      clear hpm hl
      go_enter Try.func5, Try.ntmps5
      go_wp2_with (go_at_call 10; refine (hp _ hvh.out).mono ?_; rintro e w' ⟨rfl, rfl⟩)
      clear hp hvh
      go_loop [6, 21] (fun u i => ∃ k : Nat, k ≤ ds.length ∧ i = .int .i64 k ∧ u = .int .u64 (num ds zs k) ∧ Fits ds zs k)
        (fun _ i => ds.length - (intOf i).toNat)
      case atStart => exact ⟨0, Nat.zero_le _, rfl, rfl, fun j hj => by omega⟩
      case round =>
        obtain ⟨k, hk, rfl, rfl, hf⟩ := hrel
        replace hf := hidden hf
        by_cases hlt : k < ds.length
        · have hlt2 : k < zs.length := by rw [← hlh.out]; exact hlt
          rcases hra with h0 | ⟨b1, o1, rfl, hb1, hc1⟩
          · simp only [List.map_eq_nil_iff] at h0; subst h0; simp at hlt
          rcases hrb with h0 | ⟨b2, o2, rfl, hb2, hc2⟩
          · simp only [List.map_eq_nil_iff] at h0; subst h0; simp at hlt2
          have hx1 : w'.cell? ⟨b1, o1 + k, none⟩ = some (.int .u64 (ds.getD k 0)) := hc1 k _ (by simp [hlt])
          have hx2 : w'.cell? ⟨b2, o2 + k, none⟩ = some (.int .u64 (zs.getD k 0)) := hc2 k _ (by simp [hlt2])
          have hnum : Hid (num ds zs (k + 1) = (num ds zs k * zs.getD k 0 + ds.getD k 0) % 18446744073709551616) := rfl
          have hfs : Hid (ds.getD k 0 < zs.getD k 0 → Fits ds zs (k + 1)) := fun h i hi => by
            rcases Nat.lt_or_ge i k with h1 | h1
            · exact hf.out i h1
            · obtain rfl : i = k := by omega
              exact h
          have hfn : Hid (¬ ds.getD k 0 < zs.getD k 0 → ¬ Fits ds zs zs.length) := fun h hF => h (hF k hlt2)
          clear hc1 hc2
          generalize ds.getD k 0 = d at *
          generalize zs.getD k 0 = z at *
          generalize num ds zs k = u at *
          by_cases hd : d < z
          · replace hfs := hidden (hfs.out hd)
            clear hfn
            go_wp2
            go_round
            case rel => exact ⟨k + 1, by omega, by go_num, by rw [hnum.out]; exact congrArg _ (wrap2 _ _), hfs.out⟩
            case measure => simp [intOf]; omega
          · replace hfn := hidden (hfn.out hd)
            clear hfs
            go_wp2
            go_ret2
            exact ⟨by rw [numV_bad fun h => hfn.out h.2.2]; rfl, rfl⟩
        · obtain rfl : k = ds.length := by omega
          rw [hlh.out] at hf
          have e : Hid (num ds zs ds.length = num ds zs zs.length) := by show _ = _; rw [hlh.out]
          go_wp2
          go_ret2
          exact ⟨by rw [numV_good hlh.out hfin.out hf.out, ← e.out]; rfl, rfl⟩
  · have hfin : Hid (ds.length ≠ zs.length) := hl
    have hl1 : ((ds.length : Int) != (zs.length : Int)) = true := by simp; omega
    clear hl hb
    go_enter Try.func5, Try.ntmps5
    go_wp2_with (go_at_call 10; refine (hp _ hvh.out).mono ?_; rintro e w' ⟨rfl, rfl⟩)
    go_ret2
    exact ⟨by rw [numV_bad fun h => hfin.out h.1]; rfl, rfl⟩
end Go.Proofs.Ythjmgahgfkecfab
