/-
  A MARK AS BYTES: the reference's, by contract.
-/
import Derived.Test.YtcdkpeikjnpmhaaGreatMkSame
import Derived.Test.YtcdkpeikjnpmhaaGreatVNumB
namespace Go.Proofs.YtcdkpeikjnpmhaaGreat
open Go.ChangeShapes Go.WideShapes Go.ChangeAt Go.RowKit

/-- The numbers of a mark. -/
def numsM (m : Mk) : List Nat := [1, m.told.toNat, (if m.over then 1 else 0), m.nodes.length] ++ m.nodes.map Int.toNat ++ [m.rest.toNat]
def headM (m : Mk) (k : Nat) : List Nat := [1, m.told.toNat, (if m.over then 1 else 0), m.nodes.length] ++ (m.nodes.take k).map Int.toNat
theorem headM_next (m : Mk) (k : Nat) (hk : k < m.nodes.length) : headM m (k + 1) = headM m k ++ [(m.nodes.getD k 0).toNat] := by
  unfold headM
  rw [List.take_add_one, List.getElem?_eq_getElem hk, Option.toList_some, List.map_append, ← List.append_assoc]
  simp [List.getD, hk]
theorem headM_len (m : Mk) (k : Nat) (hk : k ≤ m.nodes.length) : (headM m k).length = 4 + k := by
  simp [headM, List.length_take]; omega
theorem numsM_eq (m : Mk) (k : Nat) (hk : m.nodes.length ≤ k) : numsM m = headM m k ++ [m.rest.toNat] := by
  unfold numsM headM
  rw [List.take_of_length_le hk]
theorem good_row {m : Mk} (h : goodM m = true) : m.nodes.any badZ = false := by
  cases e : m.nodes.any badZ with
  | false => rfl
  | true => rw [goodM_row e] at h; cases h
theorem good_head {m : Mk} (h : goodM m = true) : m.items.length = 0 ∧ 0 ≤ m.told ∧ m.told ≤ 9007199254740992 ∧ m.nodes.length ≤ 12 := by
  unfold goodM at h
  by_cases h1 : 0 < m.items.length ∨ m.told < 0 ∨ 9007199254740992 < m.told ∨ 12 < m.nodes.length
  · rw [if_pos h1] at h; cases h
  · simp only [not_or] at h1
    omega
theorem badZ_no {z : Int} (h : badZ z = false) : 0 ≤ z ∧ z < 10000 := by
  simp [badZ] at h; omega
theorem numsM_lt {m : Mk} (hG : goodM m = true) (hr0 : 0 ≤ m.rest) (hr1 : m.rest < 18446744073709551616) : ∀ u ∈ numsM m, u < 18446744073709551616 := fun u hu => by
  obtain ⟨-, ht0, ht1, hn12⟩ := good_head hG
  have hrow := good_row hG
  unfold numsM at hu
  simp only [List.mem_append, List.mem_cons, List.not_mem_nil, or_false, List.mem_map] at hu
  rcases hu with ((rfl | rfl | rfl | rfl) | ⟨z, hz, rfl⟩) | rfl
  · omega
  · omega
  · split <;> omega
  · omega
  · have : badZ z = false := by
      cases e : badZ z with
      | false => rfl
      | true =>
        have : m.nodes.any badZ = true := List.any_eq_true.2 ⟨z, hz, e⟩
        rw [hrow] at this; cases this
    have := badZ_no this
    omega
  · omega
theorem grown_box {w w' : World} {B te s n b : Nat} {v : Value} {xs : List Value} {cs : Array Value} {tb : TypeId} (hg : w.grownBy w' v.ownBlock) (hb : w.heap[b]? = some (.cells cs tb)) (h : w.ownsRow B te s v n xs) (ht : te ≠ tb) : w'.heap[b]? = some (.cells cs tb) := by
  refine (hg.block _ (Array.getElem?_eq_some_iff.1 hb).1 fun e => ?_).trans hb
  rcases h.2 with ⟨rfl, _⟩ | ⟨g, cap, cur, rfl, _, h3, _⟩
  · cases e
  · simp only [Value.ownBlock, Option.some.injEq] at e
    subst e
    rw [h3] at hb
    injection hb with hb
    injection hb with _ hb _
    exact ht hb
theorem cell_one_new (w : World) (u : Value) (t : TypeId) : ∀ j x, [u][j]? = some x → (w.alloc (.cells #[u] t)).cell? ((⟨w.heap.size, 0, none⟩ : Addr).add j) = some x := fun j x hj => by
  match j, hj with
  | 0, hj => simp at hj; subst hj; simp [Addr.add, World.cell?_alloc_new]
set_option maxHeartbeats 3200000 in
set_option maxRecDepth 20000 in
theorem rput_m (m : Mk) (na : Option Addr) (nc : Nat) (ia : Option Addr) (ic : Nat) (w : World) (hG : goodM m = true) (hr0 : 0 ≤ m.rest) (hr1 : m.rest < 18446744073709551616) (hv : Holds w (.slice na m.nodes.length nc) (m.nodes.map (Value.int .i64))) :
    Calls Tryz.prog 12 #[mkS m na nc ia ic] w fun e w' => e = .returned (.string (bytesOf (bts (numsM m)))) ∧ Below w.heap.size w w' := by
  obtain ⟨-, ht0, ht1, hn12⟩ := good_head hG
  have hrow := hidden (good_row hG)
  replace hv := hidden hv
  obtain ⟨i0, hi0, hz0, hz1, hz2⟩ := info_parts infoU
  have htn : Hid ((m.told.toNat : Int) = m.told) := Int.toNat_of_nonneg ht0
  have hrn : Hid ((m.rest.toNat : Int) = m.rest) := Int.toNat_of_nonneg hr0
  have hput := fun v us w h1 h2 h3 => putAll_c v us w h1 h2 h3
  replace hG := hidden hG
  have hG := hG.out
  replace hG := hidden hG
  unfold mkS
  cases ho : m.over with
  | true =>
    have hh : Hid ((headM m 0).map u64v = [.int .u64 1, .int .u64 m.told, .int .u64 1, .int .u64 m.nodes.length]) := by
      show _ = _
      simp [headM, ho, u64v, htn.out]
    have hB0 : Hid (Below w.heap.size w ((w.alloc (.cells #[.int .i64 m.told, .bool true, .slice na m.nodes.length nc, .int .u64 m.rest, .slice ia m.items.length ic] 26)).alloc (.cells #[.int .u64 1, .int .u64 m.told, .int .u64 1, .int .u64 m.nodes.length] 23))) := ((Below.refl _ _).alloc (Nat.le_refl _) _).alloc (by show _ ≤ (w.heap.push _).size; simp) _
    have hX0 := hidden (heap2_old w (.cells #[.int .i64 m.told, .bool true, .slice na m.nodes.length nc, .int .u64 m.rest, .slice ia m.items.length ic] 26) (.cells #[.int .u64 1, .int .u64 m.told, .int .u64 1, .int .u64 m.nodes.length] 23))
    have hS0 : Hid (((w.alloc (.cells #[.int .i64 m.told, .bool true, .slice na m.nodes.length nc, .int .u64 m.rest, .slice ia m.items.length ic] 26)).alloc (.cells #[.int .u64 1, .int .u64 m.told, .int .u64 1, .int .u64 m.nodes.length] 23)).ownsRow w.heap.size 23 1 (.slice (some ⟨w.heap.size + 1, 0, none⟩) 4 4) (headM m 0).length ((headM m 0).map u64v)) := by
      have h := World.ownsRow_lit (base := w.heap.size) (size := 1) (e := 23) (w.alloc (.cells #[.int .i64 m.told, .bool true, .slice na m.nodes.length nc, .int .u64 m.rest, .slice ia m.items.length ic] 26)) #[.int .u64 1, .int .u64 m.told, .int .u64 1, .int .u64 m.nodes.length] 4 (by show _ ≤ (w.heap.push _).size; simp) (by unfold maxLen; omega) rfl
      have e : (w.alloc (.cells #[.int .i64 m.told, .bool true, .slice na m.nodes.length nc, .int .u64 m.rest, .slice ia m.items.length ic] 26)).heap.size = w.heap.size + 1 := by show (w.heap.push _).size = _; simp
      rw [e] at h
      show World.ownsRow _ _ _ _ _ _ _
      rw [hh.out, headM_len m 0 (Nat.zero_le _)]
      exact h
    have hbx := hX0.out
    obtain ⟨⟨b0, b1, b2, b3, b4⟩, -⟩ := box5f (heap_alloc_new w (.cells #[.int .i64 m.told, .bool true, .slice na m.nodes.length nc, .int .u64 m.rest, .slice ia m.items.length ic] 26))
    clear hh
    replace ho := hidden ho
    go_enter Tryz.func12, Tryz.ntmps12
    go_wp2
    clear b0 b1 b2 b3 b4
    go_loopw [4, 5] (fun u i wr => ∃ k : Nat, k ≤ m.nodes.length ∧ i = .int .i64 k ∧ Hid (wr.ownsRow w.heap.size 23 1 u (headM m k).length ((headM m k).map u64v)) ∧ Hid (Below w.heap.size w wr) ∧ Hid (wr.heap[w.heap.size]? = some (.cells #[.int .i64 m.told, .bool true, .slice na m.nodes.length nc, .int .u64 m.rest, .slice ia m.items.length ic] 26)))
      (fun _ i _ => m.nodes.length - (intOf i).toNat)
    case atStart => exact ⟨0, Nat.zero_le _, rfl, hS0, hB0, hX0⟩
    case round =>
      obtain ⟨k, hk, rfl, hown, hnx, hx⟩ := hrel
      clear hS0 hB0 hX0 hbx
      obtain ⟨⟨b0, b1, b2, b3, b4⟩, -⟩ := box5f hx.out
      have hl4 := hidden (headM_len m k hk)
      have hsz := hidden hnx.out.size
      by_cases hlt : k < m.nodes.length
      · obtain ⟨b, p, rfl, _, hc⟩ := row_cell (hv.out.below hnx.out) hlt
        have hz := hidden (badZ_no (any_no hrow.out hlt))
        have hts := hidden (headM_next m k hlt)
        have hzn : Hid (((m.nodes.getD k 0).toNat : Int) = m.nodes.getD k 0) := Int.toNat_of_nonneg hz.out.1
        have hj1 : (k : Int) < (m.nodes.length : Int) := by omega
        generalize m.nodes.getD k 0 = z at *
        have hz0' : 0 ≤ z := hz.out.1
        have hz1' : z < 10000 := hz.out.2
        go_wp2_with (at_builtin; refine wpList_append_own _ rfl _ _ 41 rfl w.heap.size 23 i0 (.int .u64 0) 1 8 Tryz.underlying41 hi0 hz0 hz1 hz2 rfl (by decide) _ _ _ rfl (hown.out.alloc _) ⟨wr.heap.size, 0, none⟩ 1 1 [.int .u64 z] rfl rfl (cell_one_new _ _ _) ?c2 ?c3 ?c4 ?c5 ?_)
        case c2 => intro u hu; simp at hu; subst hu; rfl
        case c3 => rw [hl4.out]; unfold maxLen; omega
        case c4 => rw [hl4.out]; omega
        case c5 => have := hsz.out; simp; omega
        · intro v' w1 hown' hgrow _
          have hB := hidden ((hnx.out.alloc hsz.out _).grown hgrow (by have := hsz.out; simp; omega) (fun j hj => by have := (hown.out.lt j hj).1; omega))
          have hx1 := hidden (grown_box hgrow ((heap_alloc_old _ _ (Array.getElem?_eq_some_iff.1 hx.out).1).trans hx.out) (hown.out.alloc _) (by decide))
          have hown2 : Hid (w1.ownsRow w.heap.size 23 1 v' (headM m (k + 1)).length ((headM m (k + 1)).map u64v)) := by
            show World.ownsRow _ _ _ _ _ _ _
            rw [headM_len m (k + 1) hlt, hts.out, List.map_append]
            have e : [z.toNat].map u64v = [.int .u64 z] := by simp [u64v, hzn.out]
            rw [e]
            have h9 := hown'
            rw [hl4.out] at h9
            exact h9
          clear hgrow hown hown' hnx hx b0 b1 b2 b3 b4 hc hl4 hts
          go_wp2
          go_roundw
          case rel => exact ⟨k + 1, by omega, by go_num, hown2, hB, hx1⟩
          case measure => simp [intOf]; omega
      · have hj1 : ¬ (k : Int) < (m.nodes.length : Int) := by omega
        have hnum := hidden (numsM_eq m k (by omega))
        go_wp2_with (at_builtin; refine wpList_append_own _ rfl _ _ 41 rfl w.heap.size 23 i0 (.int .u64 0) 1 8 Tryz.underlying41 hi0 hz0 hz1 hz2 rfl (by decide) _ _ _ rfl (hown.out.alloc _) ⟨wr.heap.size, 0, none⟩ 1 1 [.int .u64 m.rest] rfl rfl (cell_one_new _ _ _) (fun u hu => by simp at hu; subst hu; rfl) (by rw [hl4.out]; unfold maxLen; omega) (by rw [hl4.out]; omega) (by have := hsz.out; simp; omega) ?_; intro v' w1 hown' hgrow _)
        · skip
          have hB := hidden ((hnx.out.alloc hsz.out _).grown hgrow (by have := hsz.out; simp; omega) (fun j hj => by have := (hown.out.lt j hj).1; omega))
          have hh : Holds w1 v' ((numsM m).map u64v) := by
            rw [hnum.out, List.map_append]
            have e : [m.rest.toNat].map u64v = [.int .u64 m.rest] := by simp [u64v, hrn.out]
            rw [e]
            exact holds_of_owns hown'
          have hc := hput v' (numsM m) w1 hh (by rw [hnum.out, List.length_append, hl4.out]; simp; omega) (numsM_lt hG.out hr0 hr1)
          clear hgrow hown hown' hnx hx b0 b1 b2 b3 b4 hl4 hh
          go_wp2_with fail
          refine hc.mono ?_
          rintro e w2 ⟨rfl, hB2⟩
          have hB3 := hidden (hB.out.trans (hB2.mono hB.out.size))
          clear hB2 hc
          go_wp2
          go_ret
          exact ⟨by first | done | rfl, hB3.out⟩
  | false =>
    have hh : Hid ((headM m 0).map u64v = [.int .u64 1, .int .u64 m.told, .int .u64 0, .int .u64 m.nodes.length]) := by
      show _ = _
      simp [headM, ho, u64v, htn.out]
    have hB0 : Hid (Below w.heap.size w ((w.alloc (.cells #[.int .i64 m.told, .bool false, .slice na m.nodes.length nc, .int .u64 m.rest, .slice ia m.items.length ic] 26)).alloc (.cells #[.int .u64 1, .int .u64 m.told, .int .u64 0, .int .u64 m.nodes.length] 23))) := ((Below.refl _ _).alloc (Nat.le_refl _) _).alloc (by show _ ≤ (w.heap.push _).size; simp) _
    have hX0 := hidden (heap2_old w (.cells #[.int .i64 m.told, .bool false, .slice na m.nodes.length nc, .int .u64 m.rest, .slice ia m.items.length ic] 26) (.cells #[.int .u64 1, .int .u64 m.told, .int .u64 0, .int .u64 m.nodes.length] 23))
    have hS0 : Hid (((w.alloc (.cells #[.int .i64 m.told, .bool false, .slice na m.nodes.length nc, .int .u64 m.rest, .slice ia m.items.length ic] 26)).alloc (.cells #[.int .u64 1, .int .u64 m.told, .int .u64 0, .int .u64 m.nodes.length] 23)).ownsRow w.heap.size 23 1 (.slice (some ⟨w.heap.size + 1, 0, none⟩) 4 4) (headM m 0).length ((headM m 0).map u64v)) := by
      have h := World.ownsRow_lit (base := w.heap.size) (size := 1) (e := 23) (w.alloc (.cells #[.int .i64 m.told, .bool false, .slice na m.nodes.length nc, .int .u64 m.rest, .slice ia m.items.length ic] 26)) #[.int .u64 1, .int .u64 m.told, .int .u64 0, .int .u64 m.nodes.length] 4 (by show _ ≤ (w.heap.push _).size; simp) (by unfold maxLen; omega) rfl
      have e : (w.alloc (.cells #[.int .i64 m.told, .bool false, .slice na m.nodes.length nc, .int .u64 m.rest, .slice ia m.items.length ic] 26)).heap.size = w.heap.size + 1 := by show (w.heap.push _).size = _; simp
      rw [e] at h
      show World.ownsRow _ _ _ _ _ _ _
      rw [hh.out, headM_len m 0 (Nat.zero_le _)]
      exact h
    have hbx := hX0.out
    obtain ⟨⟨b0, b1, b2, b3, b4⟩, -⟩ := box5f (heap_alloc_new w (.cells #[.int .i64 m.told, .bool false, .slice na m.nodes.length nc, .int .u64 m.rest, .slice ia m.items.length ic] 26))
    clear hh
    replace ho := hidden ho
    go_enter Tryz.func12, Tryz.ntmps12
    go_wp2
    clear b0 b1 b2 b3 b4
    go_loopw [4, 5] (fun u i wr => ∃ k : Nat, k ≤ m.nodes.length ∧ i = .int .i64 k ∧ Hid (wr.ownsRow w.heap.size 23 1 u (headM m k).length ((headM m k).map u64v)) ∧ Hid (Below w.heap.size w wr) ∧ Hid (wr.heap[w.heap.size]? = some (.cells #[.int .i64 m.told, .bool false, .slice na m.nodes.length nc, .int .u64 m.rest, .slice ia m.items.length ic] 26)))
      (fun _ i _ => m.nodes.length - (intOf i).toNat)
    case atStart => exact ⟨0, Nat.zero_le _, rfl, hS0, hB0, hX0⟩
    case round =>
      obtain ⟨k, hk, rfl, hown, hnx, hx⟩ := hrel
      clear hS0 hB0 hX0 hbx
      obtain ⟨⟨b0, b1, b2, b3, b4⟩, -⟩ := box5f hx.out
      have hl4 := hidden (headM_len m k hk)
      have hsz := hidden hnx.out.size
      by_cases hlt : k < m.nodes.length
      · obtain ⟨b, p, rfl, _, hc⟩ := row_cell (hv.out.below hnx.out) hlt
        have hz := hidden (badZ_no (any_no hrow.out hlt))
        have hts := hidden (headM_next m k hlt)
        have hzn : Hid (((m.nodes.getD k 0).toNat : Int) = m.nodes.getD k 0) := Int.toNat_of_nonneg hz.out.1
        have hj1 : (k : Int) < (m.nodes.length : Int) := by omega
        generalize m.nodes.getD k 0 = z at *
        have hz0' : 0 ≤ z := hz.out.1
        have hz1' : z < 10000 := hz.out.2
        go_wp2_with (at_builtin; refine wpList_append_own _ rfl _ _ 41 rfl w.heap.size 23 i0 (.int .u64 0) 1 8 Tryz.underlying41 hi0 hz0 hz1 hz2 rfl (by decide) _ _ _ rfl (hown.out.alloc _) ⟨wr.heap.size, 0, none⟩ 1 1 [.int .u64 z] rfl rfl (cell_one_new _ _ _) ?c2 ?c3 ?c4 ?c5 ?_)
        case c2 => intro u hu; simp at hu; subst hu; rfl
        case c3 => rw [hl4.out]; unfold maxLen; omega
        case c4 => rw [hl4.out]; omega
        case c5 => have := hsz.out; simp; omega
        · intro v' w1 hown' hgrow _
          have hB := hidden ((hnx.out.alloc hsz.out _).grown hgrow (by have := hsz.out; simp; omega) (fun j hj => by have := (hown.out.lt j hj).1; omega))
          have hx1 := hidden (grown_box hgrow ((heap_alloc_old _ _ (Array.getElem?_eq_some_iff.1 hx.out).1).trans hx.out) (hown.out.alloc _) (by decide))
          have hown2 : Hid (w1.ownsRow w.heap.size 23 1 v' (headM m (k + 1)).length ((headM m (k + 1)).map u64v)) := by
            show World.ownsRow _ _ _ _ _ _ _
            rw [headM_len m (k + 1) hlt, hts.out, List.map_append]
            have e : [z.toNat].map u64v = [.int .u64 z] := by simp [u64v, hzn.out]
            rw [e]
            have h9 := hown'
            rw [hl4.out] at h9
            exact h9
          clear hgrow hown hown' hnx hx b0 b1 b2 b3 b4 hc hl4 hts
          go_wp2
          go_roundw
          case rel => exact ⟨k + 1, by omega, by go_num, hown2, hB, hx1⟩
          case measure => simp [intOf]; omega
      · have hj1 : ¬ (k : Int) < (m.nodes.length : Int) := by omega
        have hnum := hidden (numsM_eq m k (by omega))
        go_wp2_with (at_builtin; refine wpList_append_own _ rfl _ _ 41 rfl w.heap.size 23 i0 (.int .u64 0) 1 8 Tryz.underlying41 hi0 hz0 hz1 hz2 rfl (by decide) _ _ _ rfl (hown.out.alloc _) ⟨wr.heap.size, 0, none⟩ 1 1 [.int .u64 m.rest] rfl rfl (cell_one_new _ _ _) (fun u hu => by simp at hu; subst hu; rfl) (by rw [hl4.out]; unfold maxLen; omega) (by rw [hl4.out]; omega) (by have := hsz.out; simp; omega) ?_; intro v' w1 hown' hgrow _)
        · skip
          have hB := hidden ((hnx.out.alloc hsz.out _).grown hgrow (by have := hsz.out; simp; omega) (fun j hj => by have := (hown.out.lt j hj).1; omega))
          have hh : Holds w1 v' ((numsM m).map u64v) := by
            rw [hnum.out, List.map_append]
            have e : [m.rest.toNat].map u64v = [.int .u64 m.rest] := by simp [u64v, hrn.out]
            rw [e]
            exact holds_of_owns hown'
          have hc := hput v' (numsM m) w1 hh (by rw [hnum.out, List.length_append, hl4.out]; simp; omega) (numsM_lt hG.out hr0 hr1)
          clear hgrow hown hown' hnx hx b0 b1 b2 b3 b4 hl4 hh
          go_wp2_with fail
          refine hc.mono ?_
          rintro e w2 ⟨rfl, hB2⟩
          have hB3 := hidden (hB.out.trans (hB2.mono hB.out.size))
          clear hB2 hc
          go_wp2
          go_ret
          exact ⟨by first | done | rfl, hB3.out⟩
end Go.Proofs.YtcdkpeikjnpmhaaGreat
