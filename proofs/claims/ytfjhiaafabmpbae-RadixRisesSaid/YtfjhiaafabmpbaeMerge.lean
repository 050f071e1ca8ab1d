/-
  ALL NUMBERS OF TWO LISTS THAT RISE, AND WHAT BOTH HAVE: the program's and the reference's, by contract.
-/
import Derived.Test.YtfjhiaafabmpbaeRise
import Derived.Test.YtfjhiaafabmpbaeLower
namespace Go.Proofs.Ytfjhiaafabmpbae
open Go.ChangeShapes Go.WideShapes Go.ChangeAt Go.RowKit

theorem sl_head {w : World} {a : Option Addr} {n cap : Nat} {x : Int} {xs : List Int} (h : Sl w (.slice a n cap) ((x :: xs).map (Value.int .u64))) :
    n = xs.length + 1 ∧ ∃ b off, a = some ⟨b, off, none⟩ ∧ b < w.heap.size ∧ w.cell? ⟨b, off, none⟩ = some (.int .u64 x) := by
  obtain ⟨a', c', h1, _, _, _, h5⟩ := h
  simp only [Value.slice.injEq] at h1
  obtain ⟨rfl, rfl, rfl⟩ := h1
  refine ⟨by simp, ?_⟩
  rcases h5 with h0 | ⟨b, off, rfl, hb, hc⟩
  · cases h0
  · exact ⟨b, off, rfl, hb, hc 0 _ (by simp)⟩
theorem sl_tail {w : World} {b off n cap : Nat} {x : Int} {xs : List Int} (h : Sl w (.slice (some ⟨b, off, none⟩) n cap) ((x :: xs).map (Value.int .u64))) :
    Sl w (.slice (if cap = 1 then some ⟨b, off, none⟩ else some ⟨b, off + 1, none⟩) (n - 1) (cap - 1)) (xs.map (Value.int .u64)) := by
  obtain ⟨h1, _⟩ := sl_head h
  have := h.from' 1 (by omega)
  simpa using this
theorem sl_len {w : World} {a : Option Addr} {n cap : Nat} {xs : List Int} (h : Sl w (.slice a n cap) (xs.map (Value.int .u64))) : n = xs.length ∧ n ≤ cap := by
  obtain ⟨a', c', h1, h2, _⟩ := h
  simp only [Value.slice.injEq] at h1
  obtain ⟨rfl, rfl, rfl⟩ := h1
  simpa using h2
theorem sl_form {w : World} {v : Value} {xs : List Value} (h : Sl w v xs) : ∃ a n c, v = .slice a n c := by
  obtain ⟨a, c, h1, _⟩ := h; exact ⟨a, _, c, h1⟩
theorem ret_bool' {a b : Bool} (h : a = b) : Ending.returned (.bool a) = Ending.returned (.bool b) := by rw [h]
theorem min_u64 {x y : Int} (h : x ≤ y) : min x y = x := by omega

set_option maxHeartbeats 1600000 in
set_option maxRecDepth 1000000 in
theorem merge_c (va vb : Value) (xs ys : List Int) (w : World) (ha : Sl w va (xs.map (Value.int .u64))) (hb : Sl w vb (ys.map (Value.int .u64))) (hx : xs.length ≤ 1000) (hy : ys.length ≤ 1000) :
    Calls Try.prog 8 #[va, vb] w fun e w' => ∃ v', e = .returned v' ∧ w'.ownsRow w.heap.size 23 1 v' (mrg xs ys).length ((mrg xs ys).map (Value.int .u64)) ∧ Below w.heap.size w w' := by
  obtain ⟨R, hR0⟩ : ∃ R, Hid (R = [] ++ mrg xs ys) := ⟨_, (rfl : [] ++ mrg xs ys = _)⟩
  have hRe : Hid (mrg xs ys = R) := hR0.out.symm
  rw [hRe.out]
  clear hRe
  obtain ⟨aa, na, ca, rfl⟩ := sl_form ha
  obtain ⟨ab, nb, cb, rfl⟩ := sl_form hb
  have hna : na ≤ 1000 := by have := (sl_len ha).1; omega
  have hnb : nb ≤ 1000 := by have := (sl_len hb).1; omega
  obtain ⟨i0, hi, hz0, hz1, hz2⟩ := info_parts infoU
  go_enter Try.func8, Try.ntmps8
  go_wp2_with (refine wpList_make_own _ rfl _ _ 22 rfl w.heap.size 23 i0 (.int .u64 0) 1 Try.underlying22 hi hz0 hz1 .i64 .i64 _ (na + nb) rfl rfl ?d1 ?d2 ?d3 ?d4 ?_)
  case d1 => push_cast; rfl
  case d2 => rw [hz2]; omega
  case d3 => unfold maxLen; omega
  case d4 => omega
  intro w0 hown0 hgrow0
  have hsz0 := hgrow0.size
  have hB0 : Below w.heap.size w w0 := (Below.refl _ _).grown hgrow0 (Nat.le_refl _) (fun j hj => by cases hj)
  clear hgrow0
  go_wp2
  go_loopw [0, 1, 5] (fun va vb vm wr => ∃ us bs os : List Int, Hid (R = os ++ mrg us bs) ∧ Sl w va (us.map (Value.int .u64)) ∧ Sl w vb (bs.map (Value.int .u64)) ∧ os.length + us.length + bs.length ≤ 2000 ∧
      wr.ownsRow w.heap.size 23 1 vm os.length (os.map (Value.int .u64)) ∧ Below w.heap.size w wr)
    (fun va vb _ _ => (match va with | .slice _ n _ => n | _ => 0) + (match vb with | .slice _ n _ => n | _ => 0))
  case atStart => exact ⟨xs, ys, [], hR0.out, ha, hb, by simp; omega, hown0, hB0⟩
  case round =>
    clear ha hb
    obtain ⟨us, bs, os, hR, ha, hb, hle, hown, hnx⟩ := hrel
    obtain ⟨aa, na, ca, rfl⟩ := sl_form ha
    obtain ⟨ab, nb, cb, rfl⟩ := sl_form hb
    obtain ⟨hna, hca⟩ := sl_len ha
    obtain ⟨hnb, hcb⟩ := sl_len hb
    cases us with
    | nil =>
      obtain rfl : na = 0 := hna
      clear hnb
      have hcu := u64_cells ([] : List Int)
      have hcb' := u64_cells bs
      have hszw := hnx.size
      have hRe : Hid (R.map (Value.int .u64) = os.map (Value.int .u64) ++ ([] : List Int).map (Value.int .u64) ++ bs.map (Value.int .u64) ∧ R.length = os.length + ([] : List Int).length + bs.length) := by
        rw [hR.out]
        exact ⟨by simp [mrg], by simp [mrg]⟩
      have hll : os.length + ([] : List Int).length + bs.length ≤ 2000 := hle
      clear hR hle
      go_wp2_with (first
        | (at_builtin; refine wpList_app rfl _ _ 22 rfl w.heap.size 23 i0 (.int .u64 0) 8 Try.underlying22 hi hz0 hz1 hz2 rfl (by rfl) hown (by rfl) (ha.below hnx) hcu (by simp only [List.length_map]; unfold maxLen; omega) (by simp only [List.length_map]; omega) hszw ?_; intro v1 w1 hown1 hgrow1 hsm1; have hB1 := hnx.grown hgrow1 hszw (fun j hj => (hown.lt j hj).1); have hsz1 := hB1.size)
        | (at_builtin; refine wpList_app rfl _ _ 22 rfl w.heap.size 23 i0 (.int .u64 0) 8 Try.underlying22 hi hz0 hz1 hz2 rfl (by rfl) hown1 (by rfl) (hb.below hB1) hcb' (by simp only [List.length_map]; unfold maxLen; omega) (by simp only [List.length_map]; omega) hsz1 ?_; intro v2 w2 hown2 hgrow2 hsm2))
      have hf := hRe.out
      have hB2 := hB1.grown hgrow2 hsz1 (fun j hj => (hown1.lt j hj).1)
      simp only [List.length_map] at hown2
      rw [← hf.1, ← hf.2] at hown2
      clear hf hRe hown hown1 hgrow1 hgrow2
      go_ret
      exact ⟨_, rfl, hown2, hB2⟩
    | cons x us =>
      cases bs with
      | nil =>
        obtain rfl : nb = 0 := hnb
        have h0 : 0 < na := by rw [hna]; simp
        clear hna
        have hcu := u64_cells (x :: us)
        have hcb' := u64_cells ([] : List Int)
        have hszw := hnx.size
        have hRe : Hid (R.map (Value.int .u64) = os.map (Value.int .u64) ++ (x :: us).map (Value.int .u64) ++ ([] : List Int).map (Value.int .u64) ∧ R.length = os.length + (x :: us).length + ([] : List Int).length) := by
          rw [hR.out]
          exact ⟨by simp [mrg_nil], by simp [mrg_nil]⟩
        have hll : os.length + (x :: us).length + ([] : List Int).length ≤ 2000 := hle
        clear hR hle
        go_wp2_with (first
          | (at_builtin; refine wpList_app rfl _ _ 22 rfl w.heap.size 23 i0 (.int .u64 0) 8 Try.underlying22 hi hz0 hz1 hz2 rfl (by rfl) hown (by rfl) (ha.below hnx) hcu (by simp only [List.length_map]; unfold maxLen; omega) (by simp only [List.length_map]; omega) hszw ?_; intro v1 w1 hown1 hgrow1 hsm1; have hB1 := hnx.grown hgrow1 hszw (fun j hj => (hown.lt j hj).1); have hsz1 := hB1.size)
          | (at_builtin; refine wpList_app rfl _ _ 22 rfl w.heap.size 23 i0 (.int .u64 0) 8 Try.underlying22 hi hz0 hz1 hz2 rfl (by rfl) hown1 (by rfl) (hb.below hB1) hcb' (by simp only [List.length_map]; unfold maxLen; omega) (by simp only [List.length_map]; omega) hsz1 ?_; intro v2 w2 hown2 hgrow2 hsm2))
        have hf := hRe.out
        have hB2 := hB1.grown hgrow2 hsz1 (fun j hj => (hown1.lt j hj).1)
        simp only [List.length_map] at hown2
        rw [← hf.1, ← hf.2] at hown2
        clear hf hRe hown hown1 hgrow1 hgrow2
        go_ret
        exact ⟨_, rfl, hown2, hB2⟩
      | cons y bs =>
        have h0 : 0 < na := by rw [hna]; simp
        have h1 : 0 < nb := by rw [hnb]; simp
        clear hna hnb
        obtain ⟨-, b1, o1, rfl, hb1, hc1⟩ := sl_head ha
        obtain ⟨-, b2, o2, rfl, hb2, hc2⟩ := sl_head hb
        have hta := sl_tail ha
        have htb := sl_tail hb
        have hc1' : wr.cell? ⟨b1, o1, none⟩ = some (.int .u64 x) := (hnx.cell (by exact hb1)).trans hc1
        have hc2' : wr.cell? ⟨b2, o2, none⟩ = some (.int .u64 y) := (hnx.cell (by exact hb2)).trans hc2
        have hle' : os.length + us.length + bs.length + 2 ≤ 2000 := by simpa [Nat.add_assoc, Nat.add_comm, Nat.add_left_comm] using hle
        have hR2 : Hid ((x < y → R = (os ++ [x]) ++ mrg us (y :: bs)) ∧ (y < x → R = (os ++ [y]) ++ mrg (x :: us) bs) ∧ (x = y → R = (os ++ [x]) ++ mrg us bs)) := by
          rw [hR.out]
          refine ⟨fun h => ?_, fun h => ?_, fun h => ?_⟩
          · rw [mrg, if_pos h]; simp
          · rw [mrg, if_neg (by omega), if_pos h]; simp
          · rw [mrg, if_neg (by omega), if_neg (by omega)]; simp
        have hcu : ∀ m : Int, ∀ u ∈ [Value.int .u64 m], u.oneCell' = true := fun m u hu => by simp at hu; subst hu; rfl
        clear hc1 hc2 hR hle
        go_wp2
        go_quiet (fail)
        have hnq := below_drewN hnx nq
        have hownq : (wr.drewN nq).ownsRow w.heap.size 23 1 _ os.length (os.map (Value.int .u64)) := hown
        generalize wr.drewN nq = wq at *
        have hszw := hnq.size
        clear hown hnx hc1' hc2'
        rcases Int.lt_trichotomy x y with hxy | hxy | hxy
        · have hR3 : Hid (R = (os ++ [x]) ++ mrg us (y :: bs)) := hR2.out.1 hxy
          have hd1 : decide (x ≤ y) = true := decide_eq_true (by omega)
          have hd2 : decide (y ≤ x) = false := decide_eq_false (by omega)
          have hmn : min x y = x := by omega
          clear hR2
          go_wp2_with (at_builtin; refine wpList_app rfl _ _ 22 rfl w.heap.size 23 i0 (.int .u64 0) 8 Try.underlying22 hi hz0 hz1 hz2 rfl (by rfl) (hownq.alloc _) (by rfl) (Sl.one _ (.int .u64 x) _) (hcu x) (by simp; unfold maxLen; omega) (by simp; omega) (by simp; omega) ?_; intro v1 w1 hown1 hgrow1 hsm1)
          have hB1 := (hnq.alloc hszw _).grown hgrow1 (by simp; omega) (fun j hj => (hownq.lt j hj).1)
          have hown2 : w1.ownsRow w.heap.size 23 1 v1 (os ++ [x]).length ((os ++ [x]).map (Value.int .u64)) := by simpa using hown1
          clear hown1 hgrow1 hownq
          go_roundw
          case rel => exact ⟨us, y :: bs, _, hR3, hta, hb, by simp; omega, hown2, hB1⟩
          case measure => simp; omega
        · have hR3 : Hid (R = (os ++ [x]) ++ mrg us bs) := hR2.out.2.2 hxy
          clear hR2
          subst hxy
          have hd1 : decide (x ≤ x) = true := decide_eq_true (by omega)
          have hd2 : decide (x ≤ x) = true := decide_eq_true (by omega)
          have hmn : min x x = x := by omega
          go_wp2_with (at_builtin; refine wpList_app rfl _ _ 22 rfl w.heap.size 23 i0 (.int .u64 0) 8 Try.underlying22 hi hz0 hz1 hz2 rfl (by rfl) (hownq.alloc _) (by rfl) (Sl.one _ (.int .u64 x) _) (hcu x) (by simp; unfold maxLen; omega) (by simp; omega) (by simp; omega) ?_; intro v1 w1 hown1 hgrow1 hsm1)
          have hB1 := (hnq.alloc hszw _).grown hgrow1 (by simp; omega) (fun j hj => (hownq.lt j hj).1)
          have hown2 : w1.ownsRow w.heap.size 23 1 v1 (os ++ [x]).length ((os ++ [x]).map (Value.int .u64)) := by simpa using hown1
          clear hown1 hgrow1 hownq
          go_roundw
          case rel => exact ⟨us, bs, _, hR3, hta, htb, by simp; omega, hown2, hB1⟩
          case measure => simp; omega
        · have hR3 : Hid (R = (os ++ [y]) ++ mrg (x :: us) bs) := hR2.out.2.1 hxy
          have hd1 : decide (x ≤ y) = false := decide_eq_false (by omega)
          have hd2 : decide (y ≤ x) = true := decide_eq_true (by omega)
          have hmn : min x y = y := by omega
          clear hR2
          go_wp2_with (at_builtin; refine wpList_app rfl _ _ 22 rfl w.heap.size 23 i0 (.int .u64 0) 8 Try.underlying22 hi hz0 hz1 hz2 rfl (by rfl) (hownq.alloc _) (by rfl) (Sl.one _ (.int .u64 y) _) (hcu y) (by simp; unfold maxLen; omega) (by simp; omega) (by simp; omega) ?_; intro v1 w1 hown1 hgrow1 hsm1)
          have hB1 := (hnq.alloc hszw _).grown hgrow1 (by simp; omega) (fun j hj => (hownq.lt j hj).1)
          have hown2 : w1.ownsRow w.heap.size 23 1 v1 (os ++ [y]).length ((os ++ [y]).map (Value.int .u64)) := by simpa using hown1
          clear hown1 hgrow1 hownq
          go_roundw
          case rel => exact ⟨x :: us, bs, _, hR3, ha, htb, by simp; omega, hown2, hB1⟩
          case measure => simp; omega

set_option maxHeartbeats 1600000 in
set_option maxRecDepth 1000000 in
theorem common_c (va vb : Value) (xs ys : List Int) (w : World) (ha : Sl w va (xs.map (Value.int .u64))) (hb : Sl w vb (ys.map (Value.int .u64))) (hx : xs.length ≤ 1000) (hy : ys.length ≤ 1000) :
    Calls Try.prog 9 #[va, vb] w fun e w' => ∃ v', e = .returned v' ∧ w'.ownsRow w.heap.size 23 1 v' (com xs ys).length ((com xs ys).map (Value.int .u64)) ∧ Below w.heap.size w w' := by
  obtain ⟨R, hR0⟩ : ∃ R, Hid (R = [] ++ com xs ys) := ⟨_, (rfl : [] ++ com xs ys = _)⟩
  have hRe : Hid (com xs ys = R) := hR0.out.symm
  rw [hRe.out]
  clear hRe
  obtain ⟨aa, na, ca, rfl⟩ := sl_form ha
  obtain ⟨ab, nb, cb, rfl⟩ := sl_form hb
  obtain ⟨i0, hi, hz0, hz1, hz2⟩ := info_parts infoU
  go_enter Try.func9, Try.ntmps9
  go_wp2
  go_loopw [0, 1, 5] (fun va vb vm wr => ∃ us bs os : List Int, Hid (R = os ++ com us bs) ∧ Sl w va (us.map (Value.int .u64)) ∧ Sl w vb (bs.map (Value.int .u64)) ∧ os.length + us.length + bs.length ≤ 2000 ∧
      wr.ownsRow w.heap.size 23 1 vm os.length (os.map (Value.int .u64)) ∧ Below w.heap.size w wr)
    (fun va vb _ _ => (match va with | .slice _ n _ => n | _ => 0) + (match vb with | .slice _ n _ => n | _ => 0))
  case atStart => exact ⟨xs, ys, [], hR0.out, ha, hb, by simp; omega, World.ownsRow_nil _ _ _ _, Below.refl _ _⟩
  case round =>
    clear ha hb
    obtain ⟨us, bs, os, hR, ha, hb, hle, hown, hnx⟩ := hrel
    obtain ⟨aa, na, ca, rfl⟩ := sl_form ha
    obtain ⟨ab, nb, cb, rfl⟩ := sl_form hb
    obtain ⟨hna, hca⟩ := sl_len ha
    obtain ⟨hnb, hcb⟩ := sl_len hb
    cases us with
    | nil =>
      obtain rfl : na = 0 := hna
      have hRe : Hid (R = os) := by
        show _ = _
        rw [hR.out]; simp [com]
      clear hnb hR
      go_wp2
      go_ret
      exact ⟨_, rfl, by rw [hRe.out]; exact hown, hnx⟩
    | cons x us =>
      cases bs with
      | nil =>
        obtain rfl : nb = 0 := hnb
        have h0 : 0 < na := by rw [hna]; simp
        have hRe : Hid (R = os) := by
          show _ = _
          rw [hR.out]; simp [com]
        clear hna hR
        go_wp2
        go_ret
        exact ⟨_, rfl, by rw [hRe.out]; exact hown, hnx⟩
      | cons y bs =>
        have h0 : 0 < na := by rw [hna]; simp
        have h1 : 0 < nb := by rw [hnb]; simp
        clear hna hnb
        obtain ⟨-, b1, o1, rfl, hb1, hc1⟩ := sl_head ha
        obtain ⟨-, b2, o2, rfl, hb2, hc2⟩ := sl_head hb
        have hta := sl_tail ha
        have htb := sl_tail hb
        have hc1' : wr.cell? ⟨b1, o1, none⟩ = some (.int .u64 x) := (hnx.cell (by exact hb1)).trans hc1
        have hc2' : wr.cell? ⟨b2, o2, none⟩ = some (.int .u64 y) := (hnx.cell (by exact hb2)).trans hc2
        have hle' : os.length + us.length + bs.length + 2 ≤ 2000 := by simpa [Nat.add_assoc, Nat.add_comm, Nat.add_left_comm] using hle
        have hR2 : Hid ((x < y → R = os ++ com us (y :: bs)) ∧ (y < x → R = os ++ com (x :: us) bs) ∧ (x = y → R = (os ++ [x]) ++ com us bs)) := by
          rw [hR.out]
          refine ⟨fun h => ?_, fun h => ?_, fun h => ?_⟩
          · rw [com, if_pos h]
          · rw [com, if_neg (by omega), if_pos h]
          · rw [com, if_neg (by omega), if_neg (by omega)]; simp
        have hcu : ∀ m : Int, ∀ u ∈ [Value.int .u64 m], u.oneCell' = true := fun m u hu => by simp at hu; subst hu; rfl
        clear hc1 hc2 hR hle
        go_wp2
        go_quiet (fail)
        have hnq := below_drewN hnx nq
        have hownq : (wr.drewN nq).ownsRow w.heap.size 23 1 _ os.length (os.map (Value.int .u64)) := hown
        generalize wr.drewN nq = wq at *
        have hszw := hnq.size
        clear hown hnx hc1' hc2'
        rcases Int.lt_trichotomy x y with hxy | hxy | hxy
        · have hR3 : Hid (R = os ++ com us (y :: bs)) := hR2.out.1 hxy
          have hd1 : decide (x ≤ y) = true := decide_eq_true (by omega)
          have hd2 : decide (y ≤ x) = false := decide_eq_false (by omega)
          have hd3 : (x == y) = false := by rw [beq_eq_false_iff_ne]; omega
          clear hR2
          go_wp2
          go_roundw
          case rel => exact ⟨us, y :: bs, os, hR3, hta, hb, by simp; omega, hownq, hnq⟩
          case measure => simp; omega
        · have hR3 : Hid (R = (os ++ [x]) ++ com us bs) := hR2.out.2.2 hxy
          clear hR2
          subst hxy
          have hd1 : decide (x ≤ x) = true := decide_eq_true (by omega)
          go_wp2_with (at_builtin; refine wpList_app rfl _ _ 22 rfl w.heap.size 23 i0 (.int .u64 0) 8 Try.underlying22 hi hz0 hz1 hz2 rfl (by rfl) (hownq.alloc _) (by rfl) (Sl.one _ (.int .u64 x) _) (hcu x) (by simp; unfold maxLen; omega) (by simp; omega) (by simp; omega) ?_; intro v1 w1 hown1 hgrow1 hsm1)
          have hB1 := (hnq.alloc hszw _).grown hgrow1 (by simp; omega) (fun j hj => (hownq.lt j hj).1)
          have hown2 : w1.ownsRow w.heap.size 23 1 v1 (os ++ [x]).length ((os ++ [x]).map (Value.int .u64)) := by simpa using hown1
          clear hown1 hgrow1 hownq
          go_roundw
          case rel => exact ⟨us, bs, _, hR3, hta, htb, by simp; omega, hown2, hB1⟩
          case measure => simp; omega
        · have hR3 : Hid (R = os ++ com (x :: us) bs) := hR2.out.2.1 hxy
          have hd1 : decide (x ≤ y) = false := decide_eq_false (by omega)
          have hd2 : decide (y ≤ x) = true := decide_eq_true (by omega)
          have hd3 : (x == y) = false := by rw [beq_eq_false_iff_ne]; omega
          clear hR2
          go_wp2
          go_roundw
          case rel => exact ⟨x :: us, bs, os, hR3, ha, htb, by simp; omega, hownq, hnq⟩
          case measure => simp; omega

theorem has_more {ys : List Int} {x : Int} {k : Nat} (hk : k < ys.length) (h : x ∉ ys.take k) (hne : ys.getD k 0 ≠ x) : x ∉ ys.take (k + 1) := by
  rw [List.take_add_one, List.getElem?_eq_getElem hk]
  simp only [Option.toList, List.mem_append, List.mem_singleton, not_or]
  refine ⟨h, fun e => hne ?_⟩
  simp [List.getD, hk, e]
set_option maxHeartbeats 1600000 in
set_option maxRecDepth 1000000 in
theorem has_c (v : Value) (ys : List Int) (x : Int) (w : World) (hv : Holds w v (ys.map (Value.int .u64))) (hy : ys.length ≤ 1000) :
    Calls Try.prog 13 #[v, .int .u64 x] w fun e w' => e = .returned (.bool (decide (x ∈ ys))) ∧ w' = w := by
  obtain ⟨a, cap, rfl, hrow⟩ := hv
  rw [List.length_map]
  go_enter Try.func13, Try.ntmps13
  go_wp2
  go_loop [5] (fun i => ∃ k : Nat, i = .int .i64 k ∧ k ≤ ys.length ∧ Hid (x ∉ ys.take k)) (fun i => ys.length - (intOf i).toNat)
  case atStart => exact ⟨0, rfl, Nat.zero_le _, fun h => (by simp at h)⟩
  case round =>
    obtain ⟨k, rfl, hk, hH⟩ := hrel
    by_cases hlt : k < ys.length
    · obtain ⟨b, off, rfl, hb, hc⟩ := row_at hrow hlt
      have hmem : ys.getD k 0 ∈ ys := by simp [List.getD, hlt]
      have hmore := has_more hlt hH.out
      clear hH
      by_cases he : ys.getD k 0 = x
      · have hx : decide (x ∈ ys) = true := decide_eq_true (he ▸ hmem)
        clear hmem hmore
        rw [he] at hc
        clear he
        go_wp2
        go_ret
        exact ⟨rfl, rfl⟩
      · have hH2 : Hid (x ∉ ys.take (k + 1)) := hmore he
        clear hmem hmore
        have hd : (ys.getD k 0 == x) = false := by rw [beq_eq_false_iff_ne]; exact he
        generalize ys.getD k 0 = y at *
        go_wp2
        go_round
        case rel => exact ⟨k + 1, by go_num, by omega, hH2⟩
        case measure => simp [intOf]; omega
    · have hx : Hid (decide (x ∈ ys) = false) := decide_eq_false (by have := hH.out; rwa [List.take_of_length_le (by omega)] at this)
      clear hH
      go_wp2
      go_ret
      exact ⟨ret_bool' hx.out.symm, rfl⟩

theorem filter_succ {p : Int → Bool} {l : List Int} {k : Nat} (hk : k < l.length) : (l.take (k + 1)).filter p = if p (l.getD k 0) then (l.take k).filter p ++ [l.getD k 0] else (l.take k).filter p := by
  have : l.take (k + 1) = l.take k ++ [l.getD k 0] := by rw [List.take_add_one, List.getElem?_eq_getElem hk]; simp [List.getD, hk]
  rw [this, List.filter_append]
  by_cases h : p (l.getD k 0)
  · rw [if_pos h, List.filter_cons_of_pos h]; rfl
  · rw [if_neg h, List.filter_cons_of_neg h]; simp
set_option maxHeartbeats 1600000 in
set_option maxRecDepth 1000000 in
theorem rcommon_c (va vb : Value) (xs ys : List Int) (w : World) (ha : Holds w va (xs.map (Value.int .u64))) (hb : Holds w vb (ys.map (Value.int .u64))) (hx : xs.length ≤ 1000) (hy : ys.length ≤ 1000) :
    Calls Try.prog 10 #[va, vb] w fun e w' => ∃ v', e = .returned v' ∧ w'.ownsRow w.heap.size 23 1 v' (xs.filter fun x => decide (x ∈ ys)).length ((xs.filter fun x => decide (x ∈ ys)).map (Value.int .u64)) ∧ Below w.heap.size w w' := by
  obtain ⟨a, cap, rfl, hrow⟩ := ha
  rw [List.length_map]
  have hhas := fun (x : Int) (w' : World) (h : Below w.heap.size w w') => has_c vb ys x w' (hb.below h) hy
  obtain ⟨i0, hi, hz0, hz1, hz2⟩ := info_parts infoU
  go_enter Try.func10, Try.ntmps10
  go_wp2
  go_loopw [5, 6] (fun u i wr => ∃ k : Nat, ∃ os : List Int, Hid (os = (xs.take k).filter fun x => decide (x ∈ ys)) ∧ os.length ≤ k ∧ k ≤ xs.length ∧ i = .int .i64 k ∧ wr.ownsRow w.heap.size 23 1 u os.length (os.map (Value.int .u64)) ∧ Below w.heap.size w wr)
    (fun _ i _ => xs.length - (intOf i).toNat)
  case atStart => exact ⟨0, [], rfl, Nat.zero_le _, Nat.zero_le _, rfl, World.ownsRow_made w #[] 0 (Nat.le_refl _) (by unfold maxLen; omega) rfl, (Below.refl _ _).alloc (Nat.le_refl _) _⟩
  case round =>
    obtain ⟨k, os, hos, hol, hk, rfl, hown, hnx⟩ := hrel
    by_cases hlt : k < xs.length
    · obtain ⟨b, off, rfl, hbl, hc⟩ := row_at hrow hlt
      have hcx : wr.cell? ⟨b, off + k, none⟩ = some (.int .u64 (xs.getD k 0)) := (hnx.cell (by exact hbl)).trans hc
      have hf := filter_succ (p := fun x => decide (x ∈ ys)) hlt
      have hcl := hhas (xs.getD k 0) wr hnx
      rw [← hos.out] at hf
      have hcu : ∀ m : Int, ∀ u ∈ [Value.int .u64 m], u.oneCell' = true := fun m u hu => by simp at hu; subst hu; rfl
      have hszw := hnx.size
      clear hos hc hrow hhas
      by_cases hin : xs.getD k 0 ∈ ys
      · rw [if_pos (by simpa using hin)] at hf
        have hos2 : Hid (os ++ [xs.getD k 0] = (xs.take (k + 1)).filter fun x => decide (x ∈ ys)) := hf.symm
        rw [decide_eq_true hin] at hcl
        clear hf hin
        generalize xs.getD k 0 = y at *
        go_wp2_with (first
          | (go_at_call 13; refine hcl.mono ?_; rintro e w' ⟨rfl, rfl⟩)
          | (at_builtin; refine wpList_app rfl _ _ 22 rfl w.heap.size 23 i0 (.int .u64 0) 8 Try.underlying22 hi hz0 hz1 hz2 rfl (by rfl) (hown.alloc _) (by rfl) (Sl.one _ (.int .u64 y) _) (hcu y) (by simp; unfold maxLen; omega) (by simp; omega) (by simp; omega) ?_; intro v1 w1 hown1 hgrow1 hsm1))
        have hB1 := (hnx.alloc hszw _).grown hgrow1 (by simp; omega) (fun j hj => (hown.lt j hj).1)
        have hown2 : w1.ownsRow w.heap.size 23 1 v1 (os ++ [y]).length ((os ++ [y]).map (Value.int .u64)) := by simpa using hown1
        clear hown1 hgrow1 hown hcl
        go_wp2
        go_roundw
        case rel => exact ⟨k + 1, _, hos2, by simp; omega, by omega, by go_num, hown2, hB1⟩
        case measure => simp [intOf]; omega
      · rw [if_neg (by simpa using hin)] at hf
        have hos2 : Hid (os = (xs.take (k + 1)).filter fun x => decide (x ∈ ys)) := hf.symm
        rw [decide_eq_false hin] at hcl
        clear hf hin
        generalize xs.getD k 0 = y at *
        go_wp2_with (go_at_call 13; refine hcl.mono ?_; rintro e w' ⟨rfl, rfl⟩)
        go_roundw
        case rel => exact ⟨k + 1, _, hos2, by omega, by omega, by go_num, hown, hnx⟩
        case measure => simp [intOf]; omega
    · have e : Hid (xs.filter (fun x => decide (x ∈ ys)) = os) := by
        show _ = _
        rw [hos.out, List.take_of_length_le (by omega)]
      clear hos
      go_wp2
      go_ret
      exact ⟨_, rfl, by rw [e.out]; exact hown, hnx⟩
end Go.Proofs.Ytfjhiaafabmpbae
