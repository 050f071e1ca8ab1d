/-
  THE LAW ITSELF, its own walk.
-/
import Derived.Test.YthjmgahgfkecfaaDigits
import Derived.Test.YthjmgahgfkecfaaXCodeG
namespace Go.Proofs.Ythjmgahgfkecfaa
open Go.ChangeShapes Go.WideShapes Go.ChangeAt Go.RowKit

theorem fewN_c (v : Value) (ss : List Int) (w : World) (hv : Holds w v (ss.map (Value.int .u64))) (hs : ss.length ≤ 5) :
    Calls Try.prog 4 #[v, .int .i64 5] w fun e w' => ∃ v', e = .returned v' ∧ Sl w' v' (ss.map (Value.int .u64)) ∧ Below w.heap.size w w' :=
  (fewu_c v ss 5 w hv (by omega) (by omega)).mono fun _ _ ⟨v', he, ho, hB⟩ => ⟨v', he, by have h := sl_of_owns ho; rwa [List.take_of_length_le hs] at h, hB⟩
theorem few5_c (v : Value) (zs : List Int) (w : World) (hv : Holds w v (zs.map (Value.int .u64))) (hz : zs.length ≤ 9223372036854775807) :
    Calls Try.prog 4 #[v, .int .i64 5] w fun e w' => ∃ a c, e = .returned (.slice a (zs.take 5).length c) ∧ Holds w' (.slice a (zs.take 5).length c) ((zs.take 5).map (Value.int .u64)) ∧ Below w.heap.size w w' := by
  refine (fewu_c v zs 5 w hv hz (by omega)).mono ?_
  rintro e w' ⟨v', rfl, ho, hB⟩
  have h := holds_of_owns ho
  obtain ⟨a, c, rfl, -⟩ := holds_of_owns ho
  rw [List.length_map] at *
  exact ⟨a, c, rfl, h, hB⟩
theorem digits_bad {k : Int} {v : Value} {ss : List Int} (w : World) (hv : Sl w v (ss.map (Value.int .u64))) (hz : ss.length ≤ 5) (hb : ∀ z ∈ ss, 0 ≤ z ∧ z ≤ 18446744073709551615) (hk0 : 0 ≤ k) (h : prodS ss = 4611686018427387904 ∨ prodS ss ≤ k) :
    Calls Try.prog 5 #[.int .u64 k, v] w fun e w' => e = .returned (.tuple #[.slice none 0 0, .bool false]) ∧ Below w.heap.size w w' := by
  refine (digits_c k v ss w hv (by omega) hb hk0).mono ?_
  rintro e w' ⟨v', ok, rfl, hB, ⟨rfl, rfl, -⟩ | ⟨rfl, h1, h2, -⟩⟩
  · exact ⟨rfl, hB⟩
  · omega
theorem digits_good {k : Int} {v : Value} {ss : List Int} (w : World) (hv : Sl w v (ss.map (Value.int .u64))) (hz : ss.length ≤ 5) (hb : ∀ z ∈ ss, 0 ≤ z ∧ z ≤ 18446744073709551615) (hk0 : 0 ≤ k) (h : k < prodS ss) (h' : prodS ss < 4611686018427387904) :
    Calls Try.prog 5 #[.int .u64 k, v] w fun e w' => ∃ a c, e = .returned (.tuple #[.slice a ss.length c, .bool true]) ∧ Holds w' (.slice a ss.length c) ((digs k ss).map (Value.int .u64)) ∧ Below w.heap.size w w' := by
  refine (digits_c k v ss w hv (by omega) hb hk0).mono ?_
  rintro e w' ⟨v', ok, rfl, hB, ⟨rfl, rfl, h1⟩ | ⟨rfl, h1, h2, ho⟩⟩
  · omega
  · obtain ⟨a, c, rfl, -⟩ := holds_of_owns ho
    have hh := holds_of_owns ho
    rw [List.length_map, digs_len] at *
    exact ⟨a, c, rfl, hh, hB⟩
theorem number_digs {k : Int} {va vb : Value} {ss : List Int} (w : World) (hva : Holds w va ((digs k ss).map (Value.int .u64))) (hvb : Holds w vb (ss.map (Value.int .u64))) (hz : ss.length ≤ 5) (hb : ∀ z ∈ ss, 0 ≤ z ∧ z ≤ 18446744073709551615)
    (hk0 : 0 ≤ k) (h : k < prodS ss) (h' : prodS ss < 4611686018427387904) :
    Calls Try.prog 8 #[va, vb] w fun e w' => e = .returned (.tuple #[.int .u64 k, .bool true]) ∧ w' = w := by
  have hl := digs_len k ss
  obtain ⟨hone, he⟩ := prodS_small (zs := ss) (fun z hz => (hb z hz).1) (by omega) h'
  have e : numV (digs k ss) ss = .tuple #[.int .u64 k, .bool true] := by
    rw [numV_good hl (by omega) (fits_digs hone), num_digs hone hk0 (by omega) (by omega) _ (Nat.le_refl _), quo_end]
  have h := number_c va vb (digs k ss) ss w hva hvb (by omega) (by omega) hb
  rwa [e] at h

theorem Holds.cells {w : World} {a : Option Addr} {n c : Nat} {xs : List Value} (h : Holds w (.slice a n c) xs) (hne : xs ≠ []) :
    ∃ b off, a = some ⟨b, off, none⟩ ∧ b < w.heap.size ∧ ∀ j u, xs[j]? = some u → w.cell? ⟨b, off + j, none⟩ = some u := by
  obtain ⟨a', c', e, hr⟩ := h
  simp only [Value.slice.injEq] at e
  obtain ⟨rfl, -, -⟩ := e
  rcases hr with h0 | h0
  · exact absurd h0 hne
  · exact h0
theorem calm_trans' {w w1 w2 : World} (h : Below w.heap.size w w1) (hc : GoX.Calm w1 w2) : GoX.Calm w w2 := (GoX.Calm.of_below h).trans hc

set_option maxHeartbeats 3200000 in
set_option maxRecDepth 100000 in
theorem law_c (k : Int) (v : Value) (zs : List Int) (w : World) (hv : Holds w v (zs.map (Value.int .u64))) (hz : zs.length ≤ 9223372036854775807) (hwf : ∀ z ∈ zs, (Lit.int .u64 z).wf = true) (hk0 : 0 ≤ k)
    (hlv : ∀ x, Calls Try.prog 7 #[] x fun e w' => e = .returned (.bool true) ∧ GoX.Calm x w') :
    Calls Try.prog 3 #[.int .u64 k, v] w fun e w' => e = .returned (.bool true) ∧ GoX.Calm w w' := by
  have hf5 := few5_c v zs w hv hz
  have hb : ∀ z ∈ zs.take 5, 0 ≤ z ∧ z ≤ 18446744073709551615 := fun z hz => wf_u64 hwf z (List.mem_of_mem_take hz)
  have hl5 : (zs.take 5).length ≤ 5 := by rw [List.length_take]; omega
  clear hv hz hwf
  generalize zs.take 5 = ss at *
  have hlh : Hid (ss.length ≤ 5) := hl5
  have hfN := fun v w h => fewN_c v ss w h hl5
  have hpr := fun v w h => rprod_c v ss w h (by omega) hb
  by_cases hg : prodS ss = 4611686018427387904 ∨ prodS ss ≤ k
  · have hd := fun v w h => digits_bad (k := k) (v := v) w h hl5 hb hk0 hg
    clear hb hl5
    generalize prodS ss = p at *
    go_enter Try.func3, Try.ntmps3
    go_wp2_with fail
    refine hf5.mono ?_
    rintro e w1 ⟨a1, c1, rfl, h1, hB1⟩
    replace h1 := hidden h1
    go_wp2_with fail
    refine (hfN _ _ h1.out).mono ?_
    rintro e w2 ⟨v2, rfl, h2, hB⟩
    replace h1 := hidden (h1.out.below hB)
    replace hB1 := hidden (hB1.trans (hB.mono hB1.size))
    replace h2 := hidden h2
    clear hB
    go_wp2_with fail
    refine (hd _ _ h2.out).mono ?_
    rintro e w3 ⟨rfl, hB⟩
    replace h1 := hidden (h1.out.below hB)
    replace hB1 := hidden (hB1.out.trans (hB.mono hB1.out.size))
    clear hB h2
    go_wp2_with fail
    refine (hpr _ _ h1.out).mono ?_
    rintro e w4 ⟨rfl, rfl⟩
    by_cases hp : p = 4611686018427387904
    · replace hp : (p == 4611686018427387904) = true := by simp [hp]
      clear hg
      go_wp2_with fail
      refine (hlv _).mono ?_
      rintro e wz ⟨rfl, hC⟩
      have hfin := hidden (calm_trans' hB1.out hC)
      clear hC
      go_wp2
      go_ret
      exact ⟨by simp, hfin.out⟩
    · have hp2 : decide (p ≤ k) = true := by simp; omega
      replace hp : (p == 4611686018427387904) = false := by simp [hp]
      clear hg
      go_wp2_with fail
      refine (hlv _).mono ?_
      rintro e wz ⟨rfl, hC⟩
      have hfin := hidden (calm_trans' hB1.out hC)
      clear hC
      go_wp2
      go_ret
      exact ⟨by simp, hfin.out⟩
  · have hp1 : k < prodS ss := by omega
    have hp2 : prodS ss < 4611686018427387904 := by have := prodS_hi ss; omega
    have hd := fun v w h => digits_good (k := k) (v := v) w h hl5 hb hk0 hp1 hp2
    have hnu := fun va vb w h h' => number_digs (k := k) (va := va) (vb := vb) (ss := ss) w h h' hl5 hb hk0 hp1 hp2
    obtain ⟨hone, he⟩ := prodS_small (zs := ss) (fun z hz => (hb z hz).1) (by omega) hp2
    have hq1 : (prodS ss == 4611686018427387904) = false := by simp; omega
    have hq2 : decide (prodS ss ≤ k) = false := by simp; omega
    have hstart : Hid (k / tl ss 0 = 0) := quo_start hk0 (by omega)
    have hstep : Hid (∀ i, i < ss.length → k / tl ss i * ss.getD i 0 + dig k ss i = k / tl ss (i + 1)) := fun i hi => quo_up hone hi
    have hend : Hid (k / tl ss ss.length = k) := quo_end k ss
    have hquo : Hid (∀ i, 0 ≤ k / tl ss i ∧ k / tl ss i ≤ k) := fun i => ⟨quo_lo hk0 hone i, quo_hi hk0 ss i⟩
    have hdig : Hid (∀ i, i < ss.length → 0 ≤ dig k ss i ∧ dig k ss i < ss.getD i 0) := fun i hi => ⟨dig_lo hone hi, dig_hi hone hi⟩
    have hkm : Hid (k < 4611686018427387904) := by show _ < _; omega
    have hk0' := hidden hk0
    clear hb hg he hp1 hp2 hk0
    generalize prodS ss = p at *
    go_enter Try.func3, Try.ntmps3
    go_wp2_with fail
    refine hf5.mono ?_
    rintro e w1 ⟨a1, c1, rfl, h1, hB1⟩
    replace h1 := hidden h1
    go_wp2_with fail
    refine (hfN _ _ h1.out).mono ?_
    rintro e w2 ⟨v2, rfl, h2, hB⟩
    replace h1 := hidden (h1.out.below hB)
    replace hB1 := hidden (hB1.trans (hB.mono hB1.size))
    replace h2 := hidden h2
    clear hB
    go_wp2_with fail
    refine (hd _ _ h2.out).mono ?_
    rintro e w3 ⟨a3, c3, rfl, h3, hB⟩
    replace h1 := hidden (h1.out.below hB)
    replace h3 := hidden h3
    replace hB1 := hidden (hB1.out.trans (hB.mono hB1.out.size))
    clear hB h2
    go_wp2_with fail
    refine (hpr _ _ h1.out).mono ?_
    rintro e w4 ⟨rfl, rfl⟩
    clear hf5 hd hpr
    go_wp2_with fail
    go_loopw [9, 10] (fun u i wr => ∃ j : Nat, j ≤ ss.length ∧ i = .int .i64 j ∧ u = .int .u64 (k / tl ss j) ∧ Below w4.heap.size w4 wr)
      (fun _ i _ => ss.length - (intOf i).toNat)
    case atStart => exact ⟨0, Nat.zero_le _, rfl, by rw [hstart.out], Below.refl _ _⟩
    case round =>
      obtain ⟨j, hj, rfl, rfl, hnx⟩ := hrel
      by_cases hlt : j < ss.length
      · obtain ⟨b1, o1, rfl, hb1, hc1⟩ := h1.out.cells (by intro h; simp at h; subst h; simp at hlt)
        obtain ⟨b3, o3, rfl, hb3, hc3⟩ := h3.out.cells (by intro h; have := digs_len k ss; simp at h; rw [h] at this; simp at this; omega)
        have hx1 : wr.cell? ⟨b1, o1 + j, none⟩ = some (.int .u64 (ss.getD j 0)) := (hnx.cell (by exact hb1)).trans (hc1 j _ (by simp [hlt]))
        have hx3 : wr.cell? ⟨b3, o3 + j, none⟩ = some (.int .u64 (dig k ss j)) := (hnx.cell (by exact hb3)).trans (hc3 j _ (by simp [digs, List.getElem?_range hlt]))
        obtain ⟨hd0, hd1⟩ := hdig.out j hlt
        have hst := hidden (hstep.out j hlt)
        obtain ⟨hu0, hu1⟩ := hquo.out (j + 1)
        have hm := hkm.out
        have hw : Hid (IntKind.u64.wrap (IntKind.u64.wrap (k / tl ss j * ss.getD j 0) + dig k ss j) = k / tl ss (j + 1)) := by
          show _ = _
          rw [wrap2, hst.out]
          exact Int.emod_eq_of_lt hu0 (by omega)
        clear hc1 hc3 hst hu0 hu1 hm
        generalize ss.getD j 0 = z at *
        generalize dig k ss j = d at *
        generalize k / tl ss j = u at *
        go_wp2
        go_region
        all_goals (try go_wp2)
        go_region
        all_goals (try go_wp2)
        go_roundw
        case rel => exact ⟨j + 1, by omega, by go_num, by rw [hw.out], hnx.drew.drew⟩
        case measure => simp [intOf]; omega
      · obtain rfl : j = ss.length := by omega
        rw [hend.out]
        replace h1 := hidden (h1.out.below hnx)
        replace h3 := hidden (h3.out.below hnx)
        replace hB1 := hidden (hB1.out.trans (hnx.mono hB1.out.size))
        clear hnx
        go_wp2_with fail
        refine (hfN _ _ h1.out).mono ?_
        rintro e w5 ⟨v5, rfl, h5, hB⟩
        replace h3 := hidden (h3.out.below hB)
        replace hB1 := hidden (hB1.out.trans (hB.mono hB1.out.size))
        replace h5 := hidden h5.holds
        clear hB
        go_wp2_with fail
        refine (hnu _ _ _ h3.out h5.out).mono ?_
        rintro e w6 ⟨rfl, rfl⟩
        go_wp2_with fail
        refine (hlv _).mono ?_
        rintro e wz ⟨rfl, hC⟩
        have hfin := hidden (calm_trans' hB1.out hC)
        clear hC
        go_wp2
        go_ret
        exact ⟨by simp, hfin.out⟩
end Go.Proofs.Ythjmgahgfkecfaa
