/-
  WHETHER TWO MARKS ARE ONE: the reference's, by contract.
-/
import Derived.Test.YtcdkpeikjnpmhabGreatMkGoodB
import Derived.Deep.RegionHeld3
namespace Go.Proofs.YtcdkpeikjnpmhabGreat
open Go.ChangeShapes Go.WideShapes Go.ChangeAt Go.RowKit

def sameM (m o : Mk) : Bool := decide (m.told = o.told) && (decide (m.over = o.over) && (decide (m.rest = o.rest) && decide (m.nodes = o.nodes)))
theorem rsamem_end {xs ys : List Int} (k : Nat) (hl : xs.length = ys.length) (ht : xs.take k = ys.take k) (hk : xs.length ≤ k) : decide (xs = ys) = true := by
  rw [decide_eq_true_eq]
  rwa [List.take_of_length_le hk, List.take_of_length_le (by omega)] at ht
theorem rsamem_part {xs ys : List Int} (k : Nat) (h : xs.getD k 0 ≠ ys.getD k 0) : decide (xs = ys) = false := decide_eq_false fun e => h (by rw [e])
set_option maxHeartbeats 1600000 in
set_option maxRecDepth 20000 in
theorem rsamem_c (m o : Mk) (na nb : Option Addr) (nc nd : Nat) (ia ib : Option Addr) (ic id : Nat) (w : World) (hz : m.nodes.length ≤ 17592186044416) (hz2 : o.nodes.length ≤ 17592186044416)
    (hv : Holds w (.slice na m.nodes.length nc) (m.nodes.map (Value.int .i64))) (hu : Holds w (.slice nb o.nodes.length nd) (o.nodes.map (Value.int .i64))) :
    Calls Tryz.prog 9 #[mkS m na nc ia ic, mkS o nb nd ib id] w fun e w' => e = .returned (.bool (sameM m o)) ∧ Below w.heap.size w w' := by
  have hX0 := hidden (heap2_old w (.cells #[.int .i64 m.told, .bool m.over, .slice na m.nodes.length nc, .int .u64 m.rest, .slice ia m.items.length ic] 27) (.cells #[.int .i64 o.told, .bool o.over, .slice nb o.nodes.length nd, .int .u64 o.rest, .slice ib o.items.length id] 27))
  have hX1 := hidden (heap2_new w (.cells #[.int .i64 m.told, .bool m.over, .slice na m.nodes.length nc, .int .u64 m.rest, .slice ia m.items.length ic] 27) (.cells #[.int .i64 o.told, .bool o.over, .slice nb o.nodes.length nd, .int .u64 o.rest, .slice ib o.items.length id] 27))
  have hB0 : Hid (Below w.heap.size w ((w.alloc (.cells #[.int .i64 m.told, .bool m.over, .slice na m.nodes.length nc, .int .u64 m.rest, .slice ia m.items.length ic] 27)).alloc (.cells #[.int .i64 o.told, .bool o.over, .slice nb o.nodes.length nd, .int .u64 o.rest, .slice ib o.items.length id] 27))) :=
    ((Below.refl _ _).alloc (Nat.le_refl _) _).alloc (by show _ ≤ (w.heap.push _).size; simp) _
  have hv2 := hidden (hv.below hB0.out)
  have hu2 := hidden (hu.below hB0.out)
  have hS : Hid (sameM m o = _) := hidden (show sameM m o = (decide (m.told = o.told) && (decide (m.over = o.over) && (decide (m.rest = o.rest) && decide (m.nodes = o.nodes)))) from rfl)
  unfold mkS
  clear hv hu
  generalize hwe : (w.alloc (.cells #[.int .i64 m.told, .bool m.over, .slice na m.nodes.length nc, .int .u64 m.rest, .slice ia m.items.length ic] 27)).alloc (.cells #[.int .i64 o.told, .bool o.over, .slice nb o.nodes.length nd, .int .u64 o.rest, .slice ib o.items.length id] 27) = wx at *
  replace hwe := hidden hwe
  obtain ⟨⟨b0, b1, b2, b3, b4⟩, -⟩ := box5f hX0.out
  obtain ⟨⟨c0, c1, c2, c3, c4⟩, -⟩ := box5f hX1.out
  clear b4 c4
  generalize sameM m o = S at *
  by_cases h1 : m.told = o.told
  case neg =>
    have e : Hid (S = false) := hS.out.trans (by rw [decide_eq_false h1]; rfl)
    have g1 : (m.told == o.told) = false := beq_eq_false_iff_ne.2 h1
    have g2 : (m.told != o.told) = true := by simp [bne, g1]
    clear hS
    go_enter Tryz.func9, Tryz.ntmps9
    go_wp2_with fail
    rw [hwe.out]
    go_wp2
    go_ret
    exact ⟨by rw [e.out]; first | done | rfl, hB0.out⟩
  have g1 : (m.told != o.told) = false := by simp [h1]
  replace hS : Hid (S = (decide (m.over = o.over) && (decide (m.rest = o.rest) && decide (m.nodes = o.nodes)))) := hS.out.trans (by rw [decide_eq_true h1]; rfl)
  replace h1 := hidden h1
  by_cases h2 : m.over = o.over
  case neg =>
    have e : Hid (S = false) := hS.out.trans (by rw [decide_eq_false h2]; rfl)
    have g2 : (m.over != o.over) = true := by simp [h2]
    clear hS
    replace h2 := hidden h2
    go_enter Tryz.func9, Tryz.ntmps9
    go_wp2_with fail
    rw [hwe.out]
    go_wp2
    go_ret
    exact ⟨by rw [e.out]; first | done | rfl, hB0.out⟩
  replace hS : Hid (S = (decide (m.rest = o.rest) && decide (m.nodes = o.nodes))) := hS.out.trans (by rw [decide_eq_true h2]; rfl)
  generalize m.over = ov at *
  generalize o.over = ow at *
  subst h2
  by_cases h3 : m.rest = o.rest
  case neg =>
    have e : Hid (S = false) := hS.out.trans (by rw [decide_eq_false h3]; rfl)
    have g3 : (m.rest != o.rest) = true := by simp [h3]
    clear hS
    replace h3 := hidden h3
    go_enter Tryz.func9, Tryz.ntmps9
    go_wp2_with fail
    rw [hwe.out]
    go_wp2
    go_ret
    exact ⟨by rw [e.out]; first | done | rfl, hB0.out⟩
  have g3 : (m.rest != o.rest) = false := by simp [h3]
  replace hS : Hid (S = decide (m.nodes = o.nodes)) := hS.out.trans (by rw [decide_eq_true h3]; rfl)
  replace h3 := hidden h3
  by_cases h4 : m.nodes.length = o.nodes.length
  case neg =>
    have e : Hid (S = false) := hS.out.trans (decide_eq_false fun e => h4 (by rw [e]))
    have g4 : ((m.nodes.length : Int) != (o.nodes.length : Int)) = true := bne_iff_ne.2 (by omega)
    clear hS
    replace h4 := hidden h4
    go_enter Tryz.func9, Tryz.ntmps9
    go_wp2_with fail
    rw [hwe.out]
    go_wp2
    go_ret
    exact ⟨by rw [e.out]; first | done | rfl, hB0.out⟩
  have g4 : ((m.nodes.length : Int) != (o.nodes.length : Int)) = false := by rw [h4]; simp
  replace h4 := hidden h4
  go_enter Tryz.func9, Tryz.ntmps9
  go_wp2_with fail
  rw [hwe.out]
  go_wp2
  go_loopw [5] (fun i wr => ∃ k : Nat, k ≤ m.nodes.length ∧ i = .int .i64 k ∧ Hid (m.nodes.take k = o.nodes.take k) ∧ Hid (Below wx.heap.size wx wr)) (fun i _ => m.nodes.length - (intOf i).toNat)
  case atStart => exact ⟨0, Nat.zero_le _, rfl, rfl, Below.refl _ _⟩
  case round =>
    obtain ⟨k, hk, rfl, ht, hnx⟩ := hrel
    have hBf : Hid (Below w.heap.size w wr) := hB0.out.trans (hnx.out.mono hB0.out.size)
    replace b2 := (hnx.out.cell (World.block_lt_of_cell? _ _ b2)).trans b2
    replace c2 := (hnx.out.cell (World.block_lt_of_cell? _ _ c2)).trans c2
    by_cases hlt : k < m.nodes.length
    · have hlt2 : k < o.nodes.length := by have := h4.out; omega
      obtain ⟨b, p, rfl, _, hc⟩ := row_cell (hv2.out.below hnx.out) hlt
      obtain ⟨b', p', rfl, _, hc'⟩ := row_cell (hu2.out.below hnx.out) hlt2
      have hj1 : (k : Int) < (m.nodes.length : Int) := by omega
      have hj2 : (k : Int) < (o.nodes.length : Int) := by omega
      have hj3 : (0 : Int) ≤ (k : Int) := Int.natCast_nonneg _
      have hts : Hid (m.nodes.getD k 0 = o.nodes.getD k 0 → m.nodes.take (k + 1) = o.nodes.take (k + 1)) := fun e => by
        rw [List.take_add_one, List.take_add_one, ht.out, List.getElem?_eq_getElem hlt, List.getElem?_eq_getElem hlt2]
        simp [List.getD, hlt, hlt2] at e
        simp [e]
      have hne := hidden fun h => hS.out.trans (rsamem_part (xs := m.nodes) (ys := o.nodes) k h)
      generalize m.nodes.getD k 0 = x at *
      generalize o.nodes.getD k 0 = y at *
      clear b0 b1 b3 c0 c1 c3
      go_wp2_with fail
      go_region_held3 (fun w' => w'.cell? ⟨w.heap.size, 2, none⟩ = some (.slice (some ⟨b, p, none⟩) m.nodes.length nc) ∧ w'.cell? ⟨w.heap.size + 1, 2, none⟩ = some (.slice (some ⟨b', p', none⟩) o.nodes.length nd) ∧ w'.cell? ⟨b, p + k, none⟩ = some (.int .i64 x) ∧ w'.cell? ⟨b', p' + k, none⟩ = some (.int .i64 y)) (go_keep) (fail)
      by_cases hxy : x = y
      · have ha := hidden (hts.out hxy)
        have g5 : (x != y) = false := by simp [hxy]
        clear hxy hts hne ht
        go_wp2
        go_roundw
        case rel => exact ⟨k + 1, by omega, by go_num, ha, hnx.out.drew⟩
        case measure => simp [intOf]; omega
      · have ha := hidden (hne.out hxy)
        have g5 : (x != y) = true := by simp [hxy]
        clear hxy hts hne ht
        go_wp2
        go_ret
        exact ⟨by rw [ha.out]; first | done | rfl, hBf.out.drew⟩
    · have hj1 : ¬ (k : Int) < (m.nodes.length : Int) := by omega
      have ha := hidden (hS.out.trans (rsamem_end k h4.out ht.out (by omega)))
      clear ht
      go_wp2
      go_ret
      exact ⟨by rw [ha.out]; first | done | rfl, hBf.out⟩
end Go.Proofs.YtcdkpeikjnpmhabGreat
