/-
  A MARK AS BYTES, BY THE PROGRAM: cursor.Put, by contract.
-/
import Derived.Test.YtcdkpeikjnpmhaaGreatMkRPutM
namespace Go.Proofs.YtcdkpeikjnpmhaaGreat
open Go.ChangeShapes Go.WideShapes Go.ChangeAt Go.RowKit

set_option maxHeartbeats 3200000 in
set_option maxRecDepth 20000 in
theorem cput_yes (m : Mk) (na : Option Addr) (nc : Nat) (ia : Option Addr) (ic : Nat) (w : World) (hG : goodM m = true) (hr0 : 0 ≤ m.rest) (hr1 : m.rest < 18446744073709551616) (hv : Holds w (.slice na m.nodes.length nc) (m.nodes.map (Value.int .i64))) :
    Calls Tryz.prog 5 #[mkS m na nc ia ic] w fun e w' => e = .returned (.tuple #[.string (bytesOf (bts (numsM m))), .int .i64 0]) ∧ Below w.heap.size w w' := by
  obtain ⟨-, ht0, ht1, hn12⟩ := good_head hG
  have hrow := hidden (good_row hG)
  replace hv := hidden hv
  obtain ⟨i0, hi0, hz0, hz1, hz2⟩ := info_parts infoU
  have htn : Hid ((m.told.toNat : Int) = m.told) := Int.toNat_of_nonneg ht0
  have hrn : Hid ((m.rest.toNat : Int) = m.rest) := Int.toNat_of_nonneg hr0
  have hput : ∀ v us w, Holds w v (us.map u64v) → us.length ≤ 1000 → (∀ u ∈ us, u < 18446744073709551616) → Calls Tryz.prog 15 #[v] w fun e w' => e = .returned (str (bts us)) ∧ Below w.heap.size w w' := fun v us w h1 h2 h3 => put_c v us w h1 h2 h3
  have hgood : ∀ x, Holds x (.slice na m.nodes.length nc) (m.nodes.map (Value.int .i64)) → Calls Tryz.prog 6 #[mkS m na nc ia ic] x fun e w' => e = .returned (.bool true) ∧ Below x.heap.size x w' := fun x hx =>
    (cgood_c m na nc ia ic x (by omega) hx).mono fun e w' ⟨he, hB⟩ => ⟨by rw [he, hG], hB⟩
  replace hG := hidden hG
  unfold mkS at *
  cases ho : m.over with
  | true =>
    have hh : Hid ((headM m 0).map u64v = [.int .u64 1, .int .u64 m.told, .int .u64 1, .int .u64 m.nodes.length]) := by
      show _ = _
      simp [headM, ho, u64v, htn.out]
    rw [ho] at hgood
    replace ho := hidden ho
    have hx0 := hidden (heap_alloc_new w (.cells #[.int .i64 m.told, .bool true, .slice na m.nodes.length nc, .int .u64 m.rest, .slice ia m.items.length ic] 26))
    have hB0 : Hid (Below w.heap.size w (w.alloc (.cells #[.int .i64 m.told, .bool true, .slice na m.nodes.length nc, .int .u64 m.rest, .slice ia m.items.length ic] 26))) := (Below.refl _ _).alloc (Nat.le_refl _) _
    have hgc := hgood (w.alloc (.cells #[.int .i64 m.told, .bool true, .slice na m.nodes.length nc, .int .u64 m.rest, .slice ia m.items.length ic] 26)) (hv.out.below hB0.out)
    obtain ⟨⟨b0, b1, b2, b3, b4⟩, hag⟩ := box5f hx0.out
    have hag0 := hag
    go_enter Tryz.func5, Tryz.ntmps5
    go_wp2_with fail
    refine hgc.mono ?_
    rintro e wg ⟨rfl, hBg⟩
    have hB1 := hidden (hB0.out.trans (hBg.mono hB0.out.size))
    have hx1 := hidden ((hBg.block _ (Array.getElem?_eq_some_iff.1 hx0.out).1).trans hx0.out)
    have hsg := hidden hB1.out.size
    clear hgc hBg hB0 hx0 b0 b1 b2 b3 b4 hag hag0
    obtain ⟨⟨b0, b1, b2, b3, b4⟩, -⟩ := box5f hx1.out
    have hB2 : Hid (Below w.heap.size w (wg.alloc (.cells #[.int .u64 1, .int .u64 m.told, .int .u64 1, .int .u64 m.nodes.length] 23))) := hB1.out.alloc hsg.out _
    have hx2 := hidden ((heap_alloc_old wg (.cells #[.int .u64 1, .int .u64 m.told, .int .u64 1, .int .u64 m.nodes.length] 23) (Array.getElem?_eq_some_iff.1 hx1.out).1).trans hx1.out)
    have hS0 : Hid ((wg.alloc (.cells #[.int .u64 1, .int .u64 m.told, .int .u64 1, .int .u64 m.nodes.length] 23)).ownsRow w.heap.size 23 1 (.slice (some ⟨wg.heap.size, 0, none⟩) 4 4) (headM m 0).length ((headM m 0).map u64v)) := by
      have h := World.ownsRow_lit (base := w.heap.size) (size := 1) (e := 23) wg #[.int .u64 1, .int .u64 m.told, .int .u64 1, .int .u64 m.nodes.length] 4 hsg.out (by unfold maxLen; omega) rfl
      show World.ownsRow _ _ _ _ _ _ _
      rw [hh.out, headM_len m 0 (Nat.zero_le _)]
      exact h
    clear hh
    obtain ⟨⟨d0, d1, d2, d3, d4⟩, -⟩ := box5f hx2.out
    go_wp2
    clear b0 b1 b2 b3 b4 d0 d1 d2 d3 d4
    go_loopw [5, 7, 25] (fun u _ i wr => ∃ k : Nat, k ≤ m.nodes.length ∧ i = .int .i64 k ∧ Hid (wr.ownsRow w.heap.size 23 1 u (headM m k).length ((headM m k).map u64v)) ∧ Hid (Below w.heap.size w wr) ∧ Hid (wr.heap[w.heap.size]? = some (.cells #[.int .i64 m.told, .bool true, .slice na m.nodes.length nc, .int .u64 m.rest, .slice ia m.items.length ic] 26)))
      (fun _ _ i _ => m.nodes.length - (intOf i).toNat)
    case atStart => exact ⟨0, Nat.zero_le _, rfl, hS0, hB2, hx2⟩
    case round =>
      obtain ⟨k, hk, rfl, hown, hnx, hx⟩ := hrel
      clear hS0 hB2 hx2 hB1 hx1 hsg
      obtain ⟨⟨b0, b1, b2, b3, b4⟩, -⟩ := box5f hx.out
      have hl4 := hidden (headM_len m k hk)
      have hsz := hidden hnx.out.size
      by_cases hlt : k < m.nodes.length
      · obtain ⟨b, p, rfl, _, hc⟩ := row_cell (hv.out.below hnx.out) hlt
        have hz := hidden (badZ_no (any_no hrow.out hlt))
        have hts := hidden (headM_next m k hlt)
        have hzn : Hid (((m.nodes.getD k 0).toNat : Int) = m.nodes.getD k 0) := Int.toNat_of_nonneg hz.out.1
        have hj1 : (k : Int) < (m.nodes.length : Int) := by omega
        generalize m.nodes.getD k 0 = z at *
        have hz0' : 0 ≤ z := hz.out.1
        have hz1' : z < 10000 := hz.out.2
        go_wp2_with (at_builtin; refine wpList_append_own _ rfl _ _ 41 rfl w.heap.size 23 i0 (.int .u64 0) 1 8 Tryz.underlying41 hi0 hz0 hz1 hz2 rfl (by decide) _ _ _ rfl (hown.out.alloc _) ⟨wr.heap.size, 0, none⟩ 1 1 [.int .u64 z] rfl rfl (cell_one_new _ _ _) (fun u hu => by simp at hu; subst hu; rfl) (by rw [hl4.out]; unfold maxLen; omega) (by rw [hl4.out]; omega) (by have := hsz.out; simp; omega) ?_; intro v' w1 hown' hgrow _)
        · have hB := hidden ((hnx.out.alloc hsz.out _).grown hgrow (by have := hsz.out; simp; omega) (fun j hj => by have := (hown.out.lt j hj).1; omega))
          have hx1 := hidden (grown_box hgrow ((heap_alloc_old _ _ (Array.getElem?_eq_some_iff.1 hx.out).1).trans hx.out) (hown.out.alloc _) (by decide))
          have hown2 : Hid (w1.ownsRow w.heap.size 23 1 v' (headM m (k + 1)).length ((headM m (k + 1)).map u64v)) := by
            show World.ownsRow _ _ _ _ _ _ _
            rw [headM_len m (k + 1) hlt, hts.out, List.map_append]
            have e : [z.toNat].map u64v = [.int .u64 z] := by simp [u64v, hzn.out]
            rw [e]
            have h9 := hown'
            rw [hl4.out] at h9
            exact h9
          clear hgrow hown hown' hnx hx b0 b1 b2 b3 b4 hc hl4 hts
          go_wp2
          go_roundw
          case rel => exact ⟨k + 1, by omega, by go_num, hown2, hB, hx1⟩
          case measure => simp [intOf]; omega
      · have hj1 : ¬ (k : Int) < (m.nodes.length : Int) := by omega
        have hnum := hidden (numsM_eq m k (by omega))
        go_wp2_with (at_builtin; refine wpList_append_own _ rfl _ _ 41 rfl w.heap.size 23 i0 (.int .u64 0) 1 8 Tryz.underlying41 hi0 hz0 hz1 hz2 rfl (by decide) _ _ _ rfl (hown.out.alloc _) ⟨wr.heap.size, 0, none⟩ 1 1 [.int .u64 m.rest] rfl rfl (cell_one_new _ _ _) (fun u hu => by simp at hu; subst hu; rfl) (by rw [hl4.out]; unfold maxLen; omega) (by rw [hl4.out]; omega) (by have := hsz.out; simp; omega) ?_; intro v' w1 hown' hgrow _)
        · skip
          have hB := hidden ((hnx.out.alloc hsz.out _).grown hgrow (by have := hsz.out; simp; omega) (fun j hj => by have := (hown.out.lt j hj).1; omega))
          have hh : Holds w1 v' ((numsM m).map u64v) := by
            rw [hnum.out, List.map_append]
            have e : [m.rest.toNat].map u64v = [.int .u64 m.rest] := by simp [u64v, hrn.out]
            rw [e]
            exact holds_of_owns hown'
          have hc := hput v' (numsM m) w1 hh (by rw [hnum.out, List.length_append, hl4.out]; simp; omega) (numsM_lt hG.out hr0 hr1)
          clear hgrow hown hown' hnx hx b0 b1 b2 b3 b4 hl4 hh
          go_wp2_with fail
          refine hc.mono ?_
          rintro e w2 ⟨rfl, hB2⟩
          have hB3 := hidden (hB.out.trans (hB2.mono hB.out.size))
          clear hB2 hc
          unfold str
          go_wp2
          go_ret2
          exact ⟨by first | done | rfl, hB3.out⟩
  | false =>
    have hh : Hid ((headM m 0).map u64v = [.int .u64 1, .int .u64 m.told, .int .u64 0, .int .u64 m.nodes.length]) := by
      show _ = _
      simp [headM, ho, u64v, htn.out]
    rw [ho] at hgood
    replace ho := hidden ho
    have hx0 := hidden (heap_alloc_new w (.cells #[.int .i64 m.told, .bool false, .slice na m.nodes.length nc, .int .u64 m.rest, .slice ia m.items.length ic] 26))
    have hB0 : Hid (Below w.heap.size w (w.alloc (.cells #[.int .i64 m.told, .bool false, .slice na m.nodes.length nc, .int .u64 m.rest, .slice ia m.items.length ic] 26))) := (Below.refl _ _).alloc (Nat.le_refl _) _
    have hgc := hgood (w.alloc (.cells #[.int .i64 m.told, .bool false, .slice na m.nodes.length nc, .int .u64 m.rest, .slice ia m.items.length ic] 26)) (hv.out.below hB0.out)
    obtain ⟨⟨b0, b1, b2, b3, b4⟩, hag⟩ := box5f hx0.out
    have hag0 := hag
    go_enter Tryz.func5, Tryz.ntmps5
    go_wp2_with fail
    refine hgc.mono ?_
    rintro e wg ⟨rfl, hBg⟩
    have hB1 := hidden (hB0.out.trans (hBg.mono hB0.out.size))
    have hx1 := hidden ((hBg.block _ (Array.getElem?_eq_some_iff.1 hx0.out).1).trans hx0.out)
    have hsg := hidden hB1.out.size
    clear hgc hBg hB0 hx0 b0 b1 b2 b3 b4 hag hag0
    obtain ⟨⟨b0, b1, b2, b3, b4⟩, -⟩ := box5f hx1.out
    have hB2 : Hid (Below w.heap.size w (wg.alloc (.cells #[.int .u64 1, .int .u64 m.told, .int .u64 0, .int .u64 m.nodes.length] 23))) := hB1.out.alloc hsg.out _
    have hx2 := hidden ((heap_alloc_old wg (.cells #[.int .u64 1, .int .u64 m.told, .int .u64 0, .int .u64 m.nodes.length] 23) (Array.getElem?_eq_some_iff.1 hx1.out).1).trans hx1.out)
    have hS0 : Hid ((wg.alloc (.cells #[.int .u64 1, .int .u64 m.told, .int .u64 0, .int .u64 m.nodes.length] 23)).ownsRow w.heap.size 23 1 (.slice (some ⟨wg.heap.size, 0, none⟩) 4 4) (headM m 0).length ((headM m 0).map u64v)) := by
      have h := World.ownsRow_lit (base := w.heap.size) (size := 1) (e := 23) wg #[.int .u64 1, .int .u64 m.told, .int .u64 0, .int .u64 m.nodes.length] 4 hsg.out (by unfold maxLen; omega) rfl
      show World.ownsRow _ _ _ _ _ _ _
      rw [hh.out, headM_len m 0 (Nat.zero_le _)]
      exact h
    clear hh
    obtain ⟨⟨d0, d1, d2, d3, d4⟩, -⟩ := box5f hx2.out
    go_wp2
    clear b0 b1 b2 b3 b4 d0 d1 d2 d3 d4
    go_loopw [5, 7, 25] (fun u _ i wr => ∃ k : Nat, k ≤ m.nodes.length ∧ i = .int .i64 k ∧ Hid (wr.ownsRow w.heap.size 23 1 u (headM m k).length ((headM m k).map u64v)) ∧ Hid (Below w.heap.size w wr) ∧ Hid (wr.heap[w.heap.size]? = some (.cells #[.int .i64 m.told, .bool false, .slice na m.nodes.length nc, .int .u64 m.rest, .slice ia m.items.length ic] 26)))
      (fun _ _ i _ => m.nodes.length - (intOf i).toNat)
    case atStart => exact ⟨0, Nat.zero_le _, rfl, hS0, hB2, hx2⟩
    case round =>
      obtain ⟨k, hk, rfl, hown, hnx, hx⟩ := hrel
      clear hS0 hB2 hx2 hB1 hx1 hsg
      obtain ⟨⟨b0, b1, b2, b3, b4⟩, -⟩ := box5f hx.out
      have hl4 := hidden (headM_len m k hk)
      have hsz := hidden hnx.out.size
      by_cases hlt : k < m.nodes.length
      · obtain ⟨b, p, rfl, _, hc⟩ := row_cell (hv.out.below hnx.out) hlt
        have hz := hidden (badZ_no (any_no hrow.out hlt))
        have hts := hidden (headM_next m k hlt)
        have hzn : Hid (((m.nodes.getD k 0).toNat : Int) = m.nodes.getD k 0) := Int.toNat_of_nonneg hz.out.1
        have hj1 : (k : Int) < (m.nodes.length : Int) := by omega
        generalize m.nodes.getD k 0 = z at *
        have hz0' : 0 ≤ z := hz.out.1
        have hz1' : z < 10000 := hz.out.2
        go_wp2_with (at_builtin; refine wpList_append_own _ rfl _ _ 41 rfl w.heap.size 23 i0 (.int .u64 0) 1 8 Tryz.underlying41 hi0 hz0 hz1 hz2 rfl (by decide) _ _ _ rfl (hown.out.alloc _) ⟨wr.heap.size, 0, none⟩ 1 1 [.int .u64 z] rfl rfl (cell_one_new _ _ _) (fun u hu => by simp at hu; subst hu; rfl) (by rw [hl4.out]; unfold maxLen; omega) (by rw [hl4.out]; omega) (by have := hsz.out; simp; omega) ?_; intro v' w1 hown' hgrow _)
        · have hB := hidden ((hnx.out.alloc hsz.out _).grown hgrow (by have := hsz.out; simp; omega) (fun j hj => by have := (hown.out.lt j hj).1; omega))
          have hx1 := hidden (grown_box hgrow ((heap_alloc_old _ _ (Array.getElem?_eq_some_iff.1 hx.out).1).trans hx.out) (hown.out.alloc _) (by decide))
          have hown2 : Hid (w1.ownsRow w.heap.size 23 1 v' (headM m (k + 1)).length ((headM m (k + 1)).map u64v)) := by
            show World.ownsRow _ _ _ _ _ _ _
            rw [headM_len m (k + 1) hlt, hts.out, List.map_append]
            have e : [z.toNat].map u64v = [.int .u64 z] := by simp [u64v, hzn.out]
            rw [e]
            have h9 := hown'
            rw [hl4.out] at h9
            exact h9
          clear hgrow hown hown' hnx hx b0 b1 b2 b3 b4 hc hl4 hts
          go_wp2
          go_roundw
          case rel => exact ⟨k + 1, by omega, by go_num, hown2, hB, hx1⟩
          case measure => simp [intOf]; omega
      · have hj1 : ¬ (k : Int) < (m.nodes.length : Int) := by omega
        have hnum := hidden (numsM_eq m k (by omega))
        go_wp2_with (at_builtin; refine wpList_append_own _ rfl _ _ 41 rfl w.heap.size 23 i0 (.int .u64 0) 1 8 Tryz.underlying41 hi0 hz0 hz1 hz2 rfl (by decide) _ _ _ rfl (hown.out.alloc _) ⟨wr.heap.size, 0, none⟩ 1 1 [.int .u64 m.rest] rfl rfl (cell_one_new _ _ _) (fun u hu => by simp at hu; subst hu; rfl) (by rw [hl4.out]; unfold maxLen; omega) (by rw [hl4.out]; omega) (by have := hsz.out; simp; omega) ?_; intro v' w1 hown' hgrow _)
        · skip
          have hB := hidden ((hnx.out.alloc hsz.out _).grown hgrow (by have := hsz.out; simp; omega) (fun j hj => by have := (hown.out.lt j hj).1; omega))
          have hh : Holds w1 v' ((numsM m).map u64v) := by
            rw [hnum.out, List.map_append]
            have e : [m.rest.toNat].map u64v = [.int .u64 m.rest] := by simp [u64v, hrn.out]
            rw [e]
            exact holds_of_owns hown'
          have hc := hput v' (numsM m) w1 hh (by rw [hnum.out, List.length_append, hl4.out]; simp; omega) (numsM_lt hG.out hr0 hr1)
          clear hgrow hown hown' hnx hx b0 b1 b2 b3 b4 hl4 hh
          go_wp2_with fail
          refine hc.mono ?_
          rintro e w2 ⟨rfl, hB2⟩
          have hB3 := hidden (hB.out.trans (hB2.mono hB.out.size))
          clear hB2 hc
          unfold str
          go_wp2
          go_ret2
          exact ⟨by first | done | rfl, hB3.out⟩
theorem cput_no (m : Mk) (na : Option Addr) (nc : Nat) (ia : Option Addr) (ic : Nat) (w : World) (hz : m.nodes.length ≤ 17592186044416) (hG : goodM m = false) (hv : Holds w (.slice na m.nodes.length nc) (m.nodes.map (Value.int .i64))) :
    Calls Tryz.prog 5 #[mkS m na nc ia ic] w fun e w' => e = .returned (.tuple #[.string (bytesOf []), .int .i64 1]) ∧ Below w.heap.size w w' := by
  have hB0 : Hid (Below w.heap.size w (w.alloc (.cells #[.int .i64 m.told, .bool m.over, .slice na m.nodes.length nc, .int .u64 m.rest, .slice ia m.items.length ic] 26))) := (Below.refl _ _).alloc (Nat.le_refl _) _
  have hgc := cgood_c m na nc ia ic _ hz (hv.below hB0.out)
  rw [hG] at hgc
  obtain ⟨⟨b0, b1, b2, b3, b4⟩, hag⟩ := box5f (heap_alloc_new w (.cells #[.int .i64 m.told, .bool m.over, .slice na m.nodes.length nc, .int .u64 m.rest, .slice ia m.items.length ic] 26))
  unfold mkS at *
  clear hz hv hG
  go_enter Tryz.func5, Tryz.ntmps5
  go_wp2_with fail
  refine hgc.mono ?_
  rintro e wg ⟨rfl, hBg⟩
  have hB1 := hidden (hB0.out.trans (hBg.mono hB0.out.size))
  clear hgc hBg hB0 b0 b1 b2 b3 b4 hag
  go_wp2
  go_ret2
  exact ⟨by first | done | rfl, hB1.out⟩
end Go.Proofs.YtcdkpeikjnpmhaaGreat
