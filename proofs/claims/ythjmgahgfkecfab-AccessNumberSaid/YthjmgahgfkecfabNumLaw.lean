/-
  THE LAW ITSELF, its own walk.
-/
import Derived.Test.YthjmgahgfkecfabDigUse
import Derived.Test.YthjmgahgfkecfabSameU
namespace Go.Proofs.Ythjmgahgfkecfab
open Go.ChangeShapes Go.WideShapes Go.ChangeAt Go.RowKit

theorem numV_parts (ds ss : List Int) : ∃ U OK, numV ds ss = .tuple #[.int .u64 U, .bool OK] ∧ Hid ((ds.length = ss.length ∧ prodS ss ≠ 4611686018427387904 ∧ Fits ds ss ss.length) → U = num ds ss ss.length ∧ OK = true) ∧
    Hid (¬ (ds.length = ss.length ∧ prodS ss ≠ 4611686018427387904 ∧ Fits ds ss ss.length) → U = 0 ∧ OK = false) := by
  by_cases h : ds.length = ss.length ∧ prodS ss ≠ 4611686018427387904 ∧ Fits ds ss ss.length
  · exact ⟨_, _, numV_good h.1 h.2.1 h.2.2, fun _ => ⟨rfl, rfl⟩, fun h' => absurd h h'⟩
  · exact ⟨_, _, numV_bad h, fun h' => absurd h' h, fun _ => ⟨rfl, rfl⟩⟩
theorem number5_c (va vb : Value) (ds ss : List Int) (U : Int) (OK : Bool) (w : World) (hN : Hid (numV ds ss = .tuple #[.int .u64 U, .bool OK])) (hva : Holds w va (ds.map (Value.int .u64))) (hvb : Holds w vb (ss.map (Value.int .u64))) (hzd : ds.length ≤ 5) (hz : ss.length ≤ 5)
    (hb : ∀ z ∈ ss, 0 ≤ z ∧ z ≤ 18446744073709551615) :
    Calls Try.prog 5 #[va, vb] w fun e w' => e = .returned (.tuple #[.int .u64 U, .bool OK]) ∧ w' = w := by
  have h := number_c va vb ds ss w hva hvb (by omega) (by omega) hb
  rwa [hN.out] at h
theorem digits_num {v : Value} {ds ss : List Int} (w : World) (hv : Sl w v (ss.map (Value.int .u64))) (hz : ss.length ≤ 5) (hb : ∀ z ∈ ss, 0 ≤ z ∧ z ≤ 18446744073709551615) (hd : ∀ i, 0 ≤ ds.getD i 0) (hl : ds.length = ss.length) (hp : prodS ss ≠ 4611686018427387904) (hf : Fits ds ss ss.length) :
    Calls Try.prog 8 #[.int .u64 (num ds ss ss.length), v] w fun e w' => ∃ a c, e = .returned (.tuple #[.slice a ss.length c, .bool true]) ∧ Holds w' (.slice a ss.length c) (ds.map (Value.int .u64)) ∧ Below w.heap.size w w' := by
  have hone : ∀ z ∈ ss, 1 ≤ z := fun z hz => by
    obtain ⟨i, hi, rfl⟩ := List.getElem_of_mem hz
    have h1 := hf i hi
    have h2 := hd i
    have e : ss.getD i 0 = ss[i] := by simp [List.getD, hi]
    omega
  have h1 := prodS_one hone
  have h2 := prodS_hi ss
  have h3 := (prodS_small (zs := ss) (fun z hz => (hb z hz).1) h1 (by omega)).2
  have e1 := num_exa hd hone hf (by omega) ss.length (Nat.le_refl _)
  have h4 := exa_lo hd hone ss.length (Nat.le_refl _)
  have h5 := exa_hi hd hone hf
  have h := digits_good (k := exa ds ss ss.length) w hv hz hb h4 (by omega) (by omega)
  rw [digs_exa hl hd hone hf, ← e1] at h
  exact h
theorem sameuN_c (va vb : Value) (xs : List Int) (w : World) (hva : Holds w va (xs.map (Value.int .u64))) (hvb : Holds w vb (xs.map (Value.int .u64))) (hx : xs.length ≤ 5) :
    Calls Try.prog 9 #[va, vb] w fun e w' => e = .returned (.bool true) ∧ Below w.heap.size w w' := by
  have h := sameu_c va vb xs xs w hva hvb (by omega) (by omega)
  simpa using h

set_option maxHeartbeats 3200000 in
set_option maxRecDepth 100000 in
theorem law_c (va vb : Value) (xs zs : List Int) (w : World) (hva : Holds w va (xs.map (Value.int .u64))) (hvb : Holds w vb (zs.map (Value.int .u64))) (hzx : xs.length ≤ 9223372036854775807) (hz : zs.length ≤ 9223372036854775807)
    (hwfx : ∀ z ∈ xs, (Lit.int .u64 z).wf = true) (hwf : ∀ z ∈ zs, (Lit.int .u64 z).wf = true)
    (hlv : ∀ x, Calls Try.prog 7 #[] x fun e w' => e = .returned (.bool true) ∧ GoX.Calm x w') :
    Calls Try.prog 3 #[va, vb] w fun e w' => e = .returned (.bool true) ∧ GoX.Calm w w' := by
  have hfa := fun w h => few5_c va xs w h hzx
  have hfb := fun w h => few5_c vb zs w h hz
  have hb : ∀ z ∈ zs.take 5, 0 ≤ z ∧ z ≤ 18446744073709551615 := fun z hz => wf_u64 hwf z (List.mem_of_mem_take hz)
  have hd0 : ∀ i, 0 ≤ (xs.take 5).getD i 0 := fun i => by
    by_cases h : i < (xs.take 5).length
    · exact (wf_u64 hwfx _ (List.mem_of_mem_take (i := 5) (by rw [List.getD, List.getElem?_eq_getElem h]; exact List.getElem_mem h))).1
    · rw [List.getD, List.getElem?_eq_none (by omega)]; decide
  have hl5 : (zs.take 5).length ≤ 5 := by rw [List.length_take]; omega
  have hx5 : (xs.take 5).length ≤ 5 := by rw [List.length_take]; omega
  have hvah := hidden hva
  have hvbh := hidden hvb
  clear hz hwf hzx hwfx hva hvb
  generalize zs.take 5 = ss at *
  generalize xs.take 5 = ds at *
  obtain ⟨U, OK, hN, hgood, hbad⟩ := numV_parts ds ss
  have hfN := fun v w h => fewN_c v ss w h hl5
  have hfD := fun v w h => fewN_c v ds w h hx5
  have hpr := fun v w h => rprod_c v ss w h (by omega) hb
  have hnu := fun v1 v2 w h h' => number5_c v1 v2 ds ss U OK w hN h h' hx5 hl5 hb
  have hdn := fun v w h => digits_num (v := v) (ds := ds) (ss := ss) w h hl5 hb hd0
  have hsm := fun v1 v2 w h h' => sameuN_c v1 v2 ds w h h' hx5
  clear hN
  have hlh : Hid (ss.length ≤ 5) := hl5
  have hxh : Hid (ds.length ≤ 5) := hx5
  clear hb hd0 hl5 hx5
  have hpm : prodS ss ≤ 4611686018427387904 := prodS_hi ss
  obtain ⟨p, hpp⟩ : ∃ p, Hid (p = prodS ss) := ⟨_, (rfl : _ = _)⟩
  rw [← hpp.out] at hpr hpm
  by_cases hl : ds.length = ss.length
  · have hlq : Hid (ds.length = ss.length) := hl
    by_cases hp : p = 4611686018427387904
    · obtain ⟨rfl, rfl⟩ := hbad.out fun h => h.2.1 (by rw [← hpp.out, hp])
      have hl1 : ((ds.length : Int) == (ss.length : Int)) = true := by simp [hl]
      have hp1 : decide (p < 4611686018427387904) = false := by simp; omega
      clear hl hpm hp hlq
      go_enter Try.func3, Try.ntmps3
      go_wp2_with fail
      refine (hfa _ hvah.out).mono ?_
      rintro e w1 ⟨a1, c1, rfl, h1, hB1⟩
      replace h1 := hidden h1
      replace hvbh := hidden (hvbh.out.below hB1)
      go_wp2_with fail
      refine (hfb _ hvbh.out).mono ?_
      rintro e w2 ⟨a2, c2, rfl, h2, hB⟩
      replace h1 := hidden (h1.out.below hB)
      replace hB1 := hidden (hB1.trans (hB.mono hB1.size))
      replace h2 := hidden h2
      clear hB
      go_wp2_with fail
      refine (hfD _ _ h1.out).mono ?_
      rintro e w3 ⟨v3, rfl, h3, hB⟩
      replace h3 := hidden h3.holds
      replace h1 := hidden (h1.out.below hB)
      replace h2 := hidden (h2.out.below hB)
      replace hB1 := hidden (hB1.out.trans (hB.mono hB1.out.size))
      clear hB
      go_wp2_with fail
      refine (hfN _ _ h2.out).mono ?_
      rintro e w4 ⟨v4, rfl, h4, hB⟩
      replace h1 := hidden (h1.out.below hB)
      replace h2 := hidden (h2.out.below hB)
      replace h3 := hidden (h3.out.below hB)
      replace h4 := hidden h4.holds
      replace hB1 := hidden (hB1.out.trans (hB.mono hB1.out.size))
      clear hB
      go_wp2_with fail
      refine (hnu _ _ _ h3.out h4.out).mono ?_
      rintro e w5 ⟨rfl, rfl⟩
      clear hfa hfb hfD hnu h3 h4
      go_wp2_with fail
      refine (hpr _ _ h2.out).mono ?_
      rintro e w6 ⟨rfl, rfl⟩
      clear hpr hfN hdn hsm
      go_wp2
      go_loopw [9, 10, 11] (fun g u i wr => i = .int .i64 0 ∧ g = .bool false ∧ u = .int .u64 0 ∧ wr = w6)
        (fun _ _ i _ => 1 - (intOf i).toNat)
      case atStart => exact ⟨rfl, rfl, rfl, rfl⟩
      case round =>
        obtain ⟨rfl, rfl, rfl, rfl⟩ := hrel
        by_cases hlt : 0 < ds.length
        · go_wp2_with fail
          refine (hlv _).mono ?_
          rintro e wz ⟨rfl, hC⟩
          have hfin := hidden (calm_trans' hB1.out hC)
          clear hC
          go_wp2
          go_ret
          exact ⟨by simp, hfin.out⟩
        · go_wp2_with fail
          refine (hlv _).mono ?_
          rintro e wz ⟨rfl, hC⟩
          have hfin := hidden (calm_trans' hB1.out hC)
          clear hC
          go_wp2
          go_ret
          exact ⟨by simp, hfin.out⟩
    · have hl1 : ((ds.length : Int) == (ss.length : Int)) = true := by simp [hl]
      have hp1 : decide (p < 4611686018427387904) = true := by simp; omega
      have hpne : Hid (Fits ds ss ss.length → prodS ss ≠ 4611686018427387904) := fun _ => by rw [← hpp.out]; exact hp
      clear hl hpm hp
      go_enter Try.func3, Try.ntmps3
      go_wp2_with fail
      refine (hfa _ hvah.out).mono ?_
      rintro e w1 ⟨a1, c1, rfl, h1, hB1⟩
      replace h1 := hidden h1
      replace hvbh := hidden (hvbh.out.below hB1)
      go_wp2_with fail
      refine (hfb _ hvbh.out).mono ?_
      rintro e w2 ⟨a2, c2, rfl, h2, hB⟩
      replace h1 := hidden (h1.out.below hB)
      replace hB1 := hidden (hB1.trans (hB.mono hB1.size))
      replace h2 := hidden h2
      clear hB
      go_wp2_with fail
      refine (hfD _ _ h1.out).mono ?_
      rintro e w3 ⟨v3, rfl, h3, hB⟩
      replace h3 := hidden h3.holds
      replace h1 := hidden (h1.out.below hB)
      replace h2 := hidden (h2.out.below hB)
      replace hB1 := hidden (hB1.out.trans (hB.mono hB1.out.size))
      clear hB
      go_wp2_with fail
      refine (hfN _ _ h2.out).mono ?_
      rintro e w4 ⟨v4, rfl, h4, hB⟩
      replace h1 := hidden (h1.out.below hB)
      replace h2 := hidden (h2.out.below hB)
      replace h3 := hidden (h3.out.below hB)
      replace h4 := hidden h4.holds
      replace hB1 := hidden (hB1.out.trans (hB.mono hB1.out.size))
      clear hB
      go_wp2_with fail
      refine (hnu _ _ _ h3.out h4.out).mono ?_
      rintro e w5 ⟨rfl, rfl⟩
      clear hfa hfb hfD hnu h3 h4
      go_wp2_with fail
      refine (hpr _ _ h2.out).mono ?_
      rintro e w6 ⟨rfl, rfl⟩
      clear hpr
      go_wp2
      go_loopw [9, 10, 11] (fun g u i wr => ∃ (k : Nat) (b : Bool), k ≤ ds.length ∧ i = .int .i64 k ∧ g = .bool b ∧ u = .int .u64 (num ds ss k) ∧ Hid (b = true ↔ Fits ds ss k) ∧ Below w6.heap.size w6 wr)
        (fun _ _ i _ => ds.length - (intOf i).toNat)
      case atStart => exact ⟨0, true, Nat.zero_le _, rfl, rfl, rfl, ⟨fun _ j hj => by omega, fun _ => rfl⟩, Below.refl _ _⟩
      case round =>
        obtain ⟨k, b, hk, rfl, rfl, rfl, hf, hnx⟩ := hrel
        cases b with
        | false =>
          obtain ⟨rfl, rfl⟩ := hbad.out fun h => by have := hf.out.2 (fun i hi => h.2.2 i (by have := hlq.out; omega)); cases this
          replace hB1 := hidden (hB1.out.trans (hnx.mono hB1.out.size))
          clear hnx
          by_cases hlt : k < ds.length
          · go_wp2_with fail
            refine (hlv _).mono ?_
            rintro e wz ⟨rfl, hC⟩
            have hfin := hidden (calm_trans' hB1.out hC)
            clear hC
            go_wp2
            go_ret
            exact ⟨by simp, hfin.out⟩
          · go_wp2_with fail
            refine (hlv _).mono ?_
            rintro e wz ⟨rfl, hC⟩
            have hfin := hidden (calm_trans' hB1.out hC)
            clear hC
            go_wp2
            go_ret
            exact ⟨by simp, hfin.out⟩
        | true =>
          by_cases hlt : k < ds.length
          · have hx5 := hxh.out
            have hlt2 : k < ss.length := by rw [← hlq.out]; exact hlt
            obtain ⟨b1, o1, rfl, hb1, hc1⟩ := h1.out.cells (by intro h; simp at h; subst h; simp at hlt)
            obtain ⟨b2, o2, rfl, hb2, hc2⟩ := h2.out.cells (by intro h; simp at h; subst h; simp at hlt2)
            have hx1 : wr.cell? ⟨b1, o1 + k, none⟩ = some (.int .u64 (ds.getD k 0)) := (hnx.cell (by exact hb1)).trans (hc1 k _ (by simp [hlt]))
            have hx2 : wr.cell? ⟨b2, o2 + k, none⟩ = some (.int .u64 (ss.getD k 0)) := (hnx.cell (by exact hb2)).trans (hc2 k _ (by simp [hlt2]))
            have hnum : Hid (num ds ss (k + 1) = (num ds ss k * ss.getD k 0 + ds.getD k 0) % 18446744073709551616) := rfl
            have hfs : Hid (decide (ds.getD k 0 < ss.getD k 0) = true ↔ Fits ds ss (k + 1)) := by
              constructor
              · intro h i hi
                rcases Nat.lt_or_ge i k with h1 | h1
                · exact hf.out.1 rfl i h1
                · obtain rfl : i = k := by omega
                  simpa using h
              · intro h; have := h k (by omega); simpa using this
            have hB2 := hidden hnx
            clear hc1 hc2 hnx
            generalize ds.getD k 0 = d at *
            generalize ss.getD k 0 = z at *
            generalize num ds ss k = u at *
            go_wp2
            go_region
            all_goals (try go_wp2)
            go_region
            all_goals (try go_wp2)
            go_roundw
            case rel => exact ⟨k + 1, decide (d < z), by omega, by go_num, by first | rfl | simp, by rw [hnum.out]; exact congrArg _ (wrap2 _ _), hfs, hB2.out.drew.drew⟩
            case measure => simp [intOf]; omega
          · obtain rfl : k = ds.length := by omega
            have hff : Fits ds ss ss.length := fun i hi => hf.out.1 rfl i (by have := hlq.out; omega)
            have hpn := hidden (hpne hff)
            obtain ⟨hU, rfl⟩ := hgood.out ⟨hlq.out, hpn.out, hff⟩
            rw [hlq.out, ← hU]
            have hdn' := fun v w h => hdn v w h hlq.out hpn.out hff
            rw [← hU] at hdn'
            replace h1 := hidden (h1.out.below hnx)
            replace h2 := hidden (h2.out.below hnx)
            replace hB1 := hidden (hB1.out.trans (hnx.mono hB1.out.size))
            clear hnx hdn hU hff hf
            go_wp2_with fail
            refine (hfN _ _ h2.out).mono ?_
            rintro e w7 ⟨v7, rfl, h7, hB⟩
            replace h1 := hidden (h1.out.below hB)
            replace hB1 := hidden (hB1.out.trans (hB.mono hB1.out.size))
            replace h7 := hidden h7
            clear hB
            go_wp2_with fail
            refine (hdn' _ _ h7.out).mono ?_
            rintro e w8 ⟨a8, c8, rfl, h8, hB⟩
            replace h1 := hidden (h1.out.below hB)
            replace hB1 := hidden (hB1.out.trans (hB.mono hB1.out.size))
            replace h8 := hidden h8
            clear hB
            go_wp2_with fail
            refine (hsm _ _ _ h8.out (by have h := h1.out; rw [hlq.out] at h; exact h)).mono ?_
            rintro e w9 ⟨rfl, hB⟩
            replace hB1 := hidden (hB1.out.trans (hB.mono hB1.out.size))
            clear hB
            go_wp2_with fail
            refine (hlv _).mono ?_
            rintro e wz ⟨rfl, hC⟩
            have hfin := hidden (calm_trans' hB1.out hC)
            clear hC
            go_wp2
            go_ret
            exact ⟨by simp, hfin.out⟩
  · obtain ⟨rfl, rfl⟩ := hbad.out fun h => hl h.1
    have hl1 : ((ds.length : Int) == (ss.length : Int)) = false := by simp; omega
    clear hl hpm
    go_enter Try.func3, Try.ntmps3
    go_wp2_with fail
    refine (hfa _ hvah.out).mono ?_
    rintro e w1 ⟨a1, c1, rfl, h1, hB1⟩
    replace h1 := hidden h1
    replace hvbh := hidden (hvbh.out.below hB1)
    go_wp2_with fail
    refine (hfb _ hvbh.out).mono ?_
    rintro e w2 ⟨a2, c2, rfl, h2, hB⟩
    replace h1 := hidden (h1.out.below hB)
    replace hB1 := hidden (hB1.trans (hB.mono hB1.size))
    replace h2 := hidden h2
    clear hB
    go_wp2_with fail
    refine (hfD _ _ h1.out).mono ?_
    rintro e w3 ⟨v3, rfl, h3, hB⟩
    replace h3 := hidden h3.holds
    replace h1 := hidden (h1.out.below hB)
    replace h2 := hidden (h2.out.below hB)
    replace hB1 := hidden (hB1.out.trans (hB.mono hB1.out.size))
    clear hB
    go_wp2_with fail
    refine (hfN _ _ h2.out).mono ?_
    rintro e w4 ⟨v4, rfl, h4, hB⟩
    replace h1 := hidden (h1.out.below hB)
    replace h2 := hidden (h2.out.below hB)
    replace h3 := hidden (h3.out.below hB)
    replace h4 := hidden h4.holds
    replace hB1 := hidden (hB1.out.trans (hB.mono hB1.out.size))
    clear hB
    go_wp2_with fail
    refine (hnu _ _ _ h3.out h4.out).mono ?_
    rintro e w5 ⟨rfl, rfl⟩
    clear hfa hfb hfD hnu h3 h4
    clear hpr hfN hdn hsm
    go_wp2
    go_loopw [9, 10, 11] (fun g u i wr => i = .int .i64 0 ∧ g = .bool false ∧ u = .int .u64 0 ∧ wr = w5)
      (fun _ _ i _ => 1 - (intOf i).toNat)
    case atStart => exact ⟨rfl, rfl, rfl, rfl⟩
    case round =>
      obtain ⟨rfl, rfl, rfl, rfl⟩ := hrel
      by_cases hlt : 0 < ds.length
      · go_wp2_with fail
        refine (hlv _).mono ?_
        rintro e wz ⟨rfl, hC⟩
        have hfin := hidden (calm_trans' hB1.out hC)
        clear hC
        go_wp2
        go_ret
        exact ⟨by simp, hfin.out⟩
      · go_wp2_with fail
        refine (hlv _).mono ?_
        rintro e wz ⟨rfl, hC⟩
        have hfin := hidden (calm_trans' hB1.out hC)
        clear hC
        go_wp2
        go_ret
        exact ⟨by simp, hfin.out⟩
end Go.Proofs.Ythjmgahgfkecfab
