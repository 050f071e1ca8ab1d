/-
  NUMBERS WITH SIGNS AS BYTES: Signed and GetSigned, by contract.
-/
import Derived.Test.YtmjffmjpefaafafVCut
import Derived.Test.YtmjffmjpefaafafVBounds
import Derived.Test.YtmjffmjpefaafafZig
namespace Go.Proofs.Ytmjffmjpefaafaf
open Go.ChangeShapes Go.WideShapes Go.ChangeAt Go.RowKit BitsMath

theorem infoU64 : (Try.prog.info? 28).map (fun i => (i.zero, i.size, i.bytes)) = some (some (.int .u64 0), 1, 8) := by kernel_rfl
def zrow (ns : List Int) (k : Nat) : List Value := (List.range ns.length).map fun j => Value.int .u64 (if j < k then zz (ns.getD j 0) else 0)
theorem zrow_len (ns : List Int) (k : Nat) : (zrow ns k).length = ns.length := by simp [zrow]
theorem zrow_zero (ns : List Int) : zrow ns 0 = List.replicate ns.length (.int .u64 0) := by
  apply List.ext_getElem?
  intro j
  by_cases hj : j < ns.length
  · simp [zrow, hj]
  · rw [List.getElem?_eq_none (by rw [zrow_len]; omega), List.getElem?_eq_none (by simp; omega)]
theorem zrow_set (ns : List Int) (k : Nat) : (zrow ns k).set k (.int .u64 (zz (ns.getD k 0))) = zrow ns (k + 1) := by
  apply List.ext_getElem?
  intro j
  rw [List.getElem?_set, zrow_len]
  by_cases hj : j < ns.length
  · simp only [zrow, List.getElem?_map, List.getElem?_range hj, Option.map_some]
    by_cases h0 : k = j
    · subst h0; simp [hj]
    · rw [if_neg h0]
      by_cases h1 : j < k
      · simp [h1, show j < k + 1 by omega]
      · simp [h1, show ¬ j < k + 1 by omega]
  · rw [List.getElem?_eq_none (l := zrow ns k) (by rw [zrow_len]; omega), List.getElem?_eq_none (l := zrow ns (k + 1)) (by rw [zrow_len]; omega)]
    split
    · rename_i h; rw [if_neg (by omega)]
    · rfl
theorem zrow_full (ns : List Int) (hw : ∀ n ∈ ns, (Lit.int .i64 n).wf = true) : zrow ns ns.length = (ns.map fun n => (zz n).toNat).map fun (u : Nat) => Value.int .u64 (u : Int) := by
  apply List.ext_getElem?
  intro j
  by_cases hj : j < ns.length
  · have hb := bounds_i64 (hw ns[j] (List.getElem_mem hj))
    have hr := zz_range hb.1 hb.2
    have e : (((zz ns[j]).toNat : Nat) : Int) = zz ns[j] := by omega
    simp [zrow, hj, List.getD, e]
  · rw [List.getElem?_eq_none (by rw [zrow_len]; omega), List.getElem?_eq_none (by simp; omega)]

set_option maxHeartbeats 1600000 in
set_option maxRecDepth 1000000 in
theorem signed_c (v : Value) (ns : List Int) (w : World) (hv : Holds w v (ns.map (Value.int .i64))) (hz : ns.length ≤ 1000) (hwf : ∀ n ∈ ns, (Lit.int .i64 n).wf = true) :
    Calls Try.prog 5 #[v] w fun e w' => e = .returned (str (bts (ns.map fun n => (zz n).toNat))) ∧ Below w.heap.size w w' := by
  obtain ⟨a, cap, rfl, hrow⟩ := hv
  rw [List.length_map]
  have hput := fun (w : World) (v : Value) (hv : Holds w v ((ns.map fun n => (zz n).toNat).map fun (u : Nat) => Value.int .u64 (u : Int))) => put_c v (ns.map fun n => (zz n).toNat) w hv (by simpa using hz) (fun u hu => by
    obtain ⟨n, hn, rfl⟩ := List.mem_map.1 hu
    have hb := bounds_i64 (hwf n hn)
    have hr := zz_range hb.1 hb.2
    omega)
  rw [← zrow_full ns hwf] at hput
  generalize bts (ns.map fun n => (zz n).toNat) = R at *
  obtain ⟨i0, hi, hz0, hz1, hz2⟩ := info_parts infoU64
  go_enter Try.func5, Try.ntmps5
  go_wp2_with (refine wpList_make_full _ rfl _ _ 34 rfl w.heap.size 28 i0 (.int .u64 0) 1 Try.underlying34 hi hz0 hz1 .i64 .i64 _ _ ns.length rfl rfl ?d1 ?d2 ?d3 ?d4 ?d5 ?_)
  case d1 => rfl
  case d2 => rfl
  case d3 => rw [hz2]; omega
  case d4 => unfold maxLen; omega
  case d5 => omega
  intro w0 hown0 hgrow0
  have hsz0 := hgrow0.size
  have hB0 : Below w.heap.size w w0 := (Below.refl _ _).grown hgrow0 (Nat.le_refl _) (fun j hj => by cases hj)
  have hown1 : w0.ownsRow w.heap.size 28 1 (.slice (some ⟨w.heap.size, 0, none⟩) ns.length ns.length) ns.length (zrow ns 0) := by
    rw [zrow_zero]
    simpa [madeCells, Value.cells, Nat.mod_one, List.map_const'] using hown0
  clear hown0 hgrow0
  go_wp2
  go_loopw [11] (fun i wr => ∃ k : Nat, k ≤ ns.length ∧ i = .int .i64 k ∧ wr.ownsRow w.heap.size 28 1 (.slice (some ⟨w.heap.size, 0, none⟩) ns.length ns.length) ns.length (zrow ns k) ∧ Below w.heap.size w wr)
    (fun i _ => ns.length - (intOf i).toNat)
  case atStart => exact ⟨0, Nat.zero_le _, rfl, hown1, hB0⟩
  case round =>
    obtain ⟨k, hk, rfl, hown, hnx⟩ := hrel
    by_cases hlt : k < ns.length
    · rcases hrow with h0 | ⟨b, off, rfl, hb, hc⟩
      · simp only [List.map_eq_nil_iff] at h0; subst h0; simp at hlt
      have hcx : wr.cell? ⟨b, off + k, none⟩ = some (.int .i64 (ns.getD k 0)) := (hnx.cell (by exact hb)).trans (hc k _ (by simp [hlt]))
      obtain ⟨u1, hcs1⟩ : ∃ u, wr.cell? ⟨w.heap.size, k, none⟩ = some u := ⟨_, by rw [hown.cellAt k (by omega)]; exact List.getElem?_eq_getElem (by rw [zrow_len]; omega)⟩
      have hfr : wr.frozen? ⟨w.heap.size, k, none⟩ = false := hown.frozenAt k
      obtain ⟨hz0', hz1'⟩ := bounds_i64 (hwf (ns.getD k 0) (by simp [List.getD, hlt]))
      have hst := hown.stored k (.int .u64 (zz (ns.getD k 0)))
      rw [zrow_set] at hst
      have hzig := fun w => zig_c hz0' hz1' w
      clear hc hi hz0 hz1 hz2 hput hown hown1
      generalize ns.getD k 0 = z at *
      generalize zz z = y at *
      go_wp2_with (go_at_call 10; refine (hzig _).mono ?_; rintro e w' ⟨rfl, rfl⟩)
      go_roundw
      case rel => exact ⟨k + 1, by omega, by go_num, hst.1, hnx.setCell (Nat.le_refl _) _⟩
      case measure => simp [intOf]; omega
    · obtain rfl : k = ns.length := by omega
      have hH := holds_of_owns hown
      rw [← zrow_len ns ns.length] at hH
      have hp := hput wr (.slice (some ⟨w.heap.size, 0, none⟩) ns.length ns.length) (by have := holds_of_owns hown; exact this)
      clear hH hput
      go_wp2_with (go_at_call 11; refine hp.mono ?_; rintro e w' ⟨rfl, hB⟩)
      go_ret
      exact ⟨rfl, hnx.trans (hB.mono hnx.size)⟩

theorem getS_num (L : List UInt8) : (getS L).1 < 18446744073709551616 := by
  by_cases h : (getS L).2.2 = 0
  · exact (getS_bounds L h).1
  · have e : (getS L).1 = 0 := gt_zero L 11 0 h
    omega
def gsx (L : List UInt8) : Value := .tuple #[.int .i64 (zg ((getS L).1 : Nat)), .int .i64 ((getS L).2.1 : Nat), .int .i64 ((getS L).2.2 : Nat)]
set_option maxHeartbeats 800000 in
theorem getSigned_c (s : ByteArray) (w : World) (hs : s.size ≤ 9223372036854775807) :
    Calls Try.prog 7 #[.string s] w fun e w' => e = .returned (gsx s.data.toList) ∧ w' = w := by
  have hb := getS_num s.data.toList
  have hg := fun (w : World) => get_c s w hs
  unfold gsx
  unfold tupR at hg
  generalize getS s.data.toList = r at *
  obtain ⟨u, k, e⟩ := r
  simp only at hb hg ⊢
  have hz := fun w => zag_c (n := (u : Int)) (by omega) (by omega) w
  generalize zg (u : Int) = z at *
  go_enter Try.func7, Try.ntmps7
  go_wp2_with (first
    | (go_at_call 14; refine (hg _).mono ?_; rintro e w' ⟨rfl, rfl⟩)
    | (go_at_call 15; refine (hz _).mono ?_; rintro e w' ⟨rfl, rfl⟩))
  go_ret3
  exact ⟨rfl, rfl⟩
set_option maxHeartbeats 800000 in
theorem rsigned_c {n : Int} (h0 : -9223372036854775808 ≤ n) (h1 : n ≤ 9223372036854775807) (w : World) :
    Calls Try.prog 6 #[.int .i64 n] w fun e w' => e = .returned (.string (bytesOf (put (zz n).toNat))) ∧ Below w.heap.size w w' := by
  have hr := zz_range h0 h1
  have hz := fun w => rzig_c h0 h1 w
  have e : (((zz n).toNat : Nat) : Int) = zz n := by omega
  have hp : ∀ w, Calls Try.prog 12 #[.int .u64 (zz n)] w fun e w' => e = .returned (.string (bytesOf (put (zz n).toNat))) ∧ Below w.heap.size w w' := fun w => by
    rw [← e]
    exact rput_c 10 (zz n).toNat w (by omega) (by omega) (by omega)
  generalize bytesOf (put (zz n).toNat) = R at *
  clear e
  generalize zz n = z at *
  go_enter Try.func6, Try.ntmps6
  go_wp2_with (first
    | (go_at_call 13; refine (hz _).mono ?_; rintro e w' ⟨rfl, rfl⟩)
    | (go_at_call 12; refine (hp _).mono ?_; rintro e w' ⟨rfl, hB⟩))
  go_ret
  exact ⟨rfl, hB⟩
end Go.Proofs.Ytmjffmjpefaafaf
