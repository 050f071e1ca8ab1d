/-
  ROWS OF PAIRS: a copy, by contract.
-/
import Derived.Test.YtfjhiaafabmpbafSl
import Derived.WalkSmall
import Derived.Laws.BitsAllLaws
import Derived.Laws.BitsLemmas
import Derived.Lib.Zigzag
namespace Go.Proofs.Ytfjhiaafabmpbaf
open Go.ChangeShapes Go.WideShapes Go.ChangeAt Go.RowKit

def flat : List (Int × Int) → List Value
  | [] => []
  | p :: r => .int .u32 p.1 :: .int .u32 p.2 :: flat r
theorem flat_len : ∀ ps : List (Int × Int), (flat ps).length = ps.length * 2
  | [] => rfl
  | p :: r => by simp [flat, flat_len r]; omega
theorem flat_append : ∀ ps qs : List (Int × Int), flat (ps ++ qs) = flat ps ++ flat qs
  | [], _ => rfl
  | p :: r, qs => by simp [flat, flat_append r qs]
theorem flat_at : ∀ (ps : List (Int × Int)) (k : Nat), k < ps.length → (flat ps)[k * 2]? = some (.int .u32 (ps.getD k (0, 0)).1) ∧ (flat ps)[k * 2 + 1]? = some (.int .u32 (ps.getD k (0, 0)).2)
  | p :: r, 0, _ => ⟨rfl, rfl⟩
  | p :: r, k + 1, h => by
    have := flat_at r k (by simpa using h)
    rw [show (k + 1) * 2 = k * 2 + 1 + 1 by omega]
    simpa [flat] using this
/-- A slice that holds pairs. -/
def HoldsP (w : World) (v : Value) (ps : List (Int × Int)) : Prop := ∃ a cap, v = .slice a ps.length cap ∧ RowAt w a (flat ps)
theorem HoldsP.below {w w' : World} {v : Value} {ps : List (Int × Int)} (h : HoldsP w v ps) (hb : Below w.heap.size w w') : HoldsP w' v ps := by
  obtain ⟨a, cap, h1, h2⟩ := h
  exact ⟨a, cap, h1, h2.below hb⟩
theorem holdsP_of_owns {w : World} {base : Nat} {e : TypeId} {v : Value} {n : Nat} {ps : List (Int × Int)} (h : w.ownsRow base e 2 v n (flat ps)) : HoldsP w v ps := by
  obtain ⟨hl, h⟩ := h
  rw [flat_len] at hl
  have hn : n = ps.length := by omega
  subst hn
  rcases h with ⟨rfl, h0⟩ | ⟨g, cap, cur, rfl, hg, hcell, hn, hcm, hsz, htake⟩
  · obtain rfl : ps = [] := List.eq_nil_of_length_eq_zero h0
    exact ⟨none, 0, rfl, .inl rfl⟩
  · refine ⟨some ⟨g, 0, none⟩, cap, rfl, .inr ⟨g, 0, rfl, (Array.getElem?_eq_some_iff.1 hcell).1, fun j u hj => ?_⟩⟩
    have hj' : j < (flat ps).length := (List.getElem?_eq_some_iff.1 hj).1
    rw [flat_len] at hj'
    rw [← htake, List.getElem?_take, if_pos (by omega)] at hj
    simp only [World.cell?, hcell, Nat.zero_add]
    simpa using hj
theorem pairs_at {w : World} {a : Option Addr} {ps : List (Int × Int)} (h : RowAt w a (flat ps)) {k : Nat} (hk : k < ps.length) :
    ∃ b off, a = some ⟨b, off, none⟩ ∧ b < w.heap.size ∧ w.cell? ⟨b, off + k * 2, none⟩ = some (.int .u32 (ps.getD k (0, 0)).1) ∧ w.cell? ⟨b, off + k * 2 + 1, none⟩ = some (.int .u32 (ps.getD k (0, 0)).2) := by
  obtain ⟨h1, h2⟩ := flat_at ps k hk
  rcases h with h0 | ⟨b, off, rfl, hb, hc⟩
  · have := congrArg List.length h0
    rw [flat_len] at this
    simp only [List.length_nil] at this; omega
  · exact ⟨b, off, rfl, hb, hc _ _ h1, by have := hc _ _ h2; rwa [← Nat.add_assoc] at this⟩
theorem infoP : (Try.prog.info? 36).map (fun i => (i.zero, i.size, i.bytes)) = some (some (.agg #[.int .u32 0, .int .u32 0]), 2, 8) := by kernel_rfl
theorem take_snocP (ps : List (Int × Int)) (k : Nat) (hk : k < ps.length) : ps.take (k + 1) = ps.take k ++ [ps.getD k (0, 0)] := by
  rw [List.take_add_one, List.getElem?_eq_getElem hk]; simp [List.getD, hk]

set_option maxHeartbeats 800000 in
set_option maxRecDepth 1000000 in
theorem pcopy_c (v : Value) (ps : List (Int × Int)) (m : Nat) (w : World) (hv : HoldsP w v ps) (hz : ps.length ≤ 9223372036854775807) (hm : m ≤ 1000) :
    Calls Try.prog 4 #[v, .int .i64 m] w fun e w' =>
      ∃ v', e = .returned v' ∧ w'.ownsRow w.heap.size 36 2 v' (ps.take m).length (flat (ps.take m)) ∧ Below w.heap.size w w' := by
  obtain ⟨a, cap, rfl, hrow⟩ := hv
  obtain ⟨i0, hi, hz0, hz1, hz2⟩ := info_parts infoP
  go_enter Try.func4, Try.ntmps4
  go_wp2
  go_loopw [5, 6] (fun u i wr => ∃ k : Nat, k ≤ ps.length ∧ k ≤ m ∧ i = .int .i64 k ∧ wr.ownsRow w.heap.size 36 2 u (ps.take k).length (flat (ps.take k)) ∧ Below w.heap.size w wr)
    (fun _ i _ => ps.length - (intOf i).toNat)
  case atStart => exact ⟨0, Nat.zero_le _, Nat.zero_le _, rfl, World.ownsRow_made w #[] 0 (Nat.le_refl _) (by unfold maxLen; omega) rfl, (Below.refl _ _).alloc (Nat.le_refl _) _⟩
  case round =>
    obtain ⟨k, hk, hkm, rfl, hown, hnx⟩ := hrel
    by_cases hlt : k < ps.length ∧ k < m
    · obtain ⟨hk1, hk2⟩ := hlt
      obtain ⟨b, off, rfl, hb, hc1, hc2⟩ := pairs_at hrow hk1
      have hx1 : wr.cell? ⟨b, off + k * 2, none⟩ = some (.int .u32 (ps.getD k (0, 0)).1) := (hnx.cell (by exact hb)).trans hc1
      have hx2 : wr.cell? ⟨b, off + k * 2 + 1, none⟩ = some (.int .u32 (ps.getD k (0, 0)).2) := (hnx.cell (by exact hb)).trans hc2
      have hsz := hnx.size
      have htk : (ps.take k).length = k := by rw [List.length_take]; omega
      have hts := take_snocP ps k hk1
      clear hc1 hc2
      generalize ps.getD k (0, 0) = p at *
      obtain ⟨x, y⟩ := p
      simp only at hx1 hx2
      go_wp2_with (at_builtin; refine wpList_append_own _ rfl _ _ 22 rfl w.heap.size 36 i0 (.agg #[.int .u32 0, .int .u32 0]) 2 8 Try.underlying22 hi hz0 hz1 hz2 rfl (by decide) _ _ _ rfl (hown.alloc _) ⟨wr.heap.size, 0, none⟩ 1 1 [.int .u32 x, .int .u32 y] rfl rfl (cell_two_new _ _ _ _) ?c2 ?c3 ?c4 ?c5 ?_)
      case c2 => intro u hu; simp at hu; rcases hu with rfl | rfl <;> rfl
      case c3 => rw [htk]; unfold maxLen; omega
      case c4 => rw [htk]; omega
      case c5 => simp; omega
      · intro v' w1 hown' hgrow _
        have hlt2 : (ps.take (k + 1)).length = k + 1 := by rw [List.length_take]; omega
        have hB : Below w.heap.size w w1 := (hnx.alloc (by omega) _).grown hgrow (by simp; omega) (fun j hj => by have := (hown.lt j hj).1; omega)
        clear hgrow hown hx1 hx2 hnx
        go_wp2
        go_roundw
        case rel => exact ⟨k + 1, by omega, by omega, by go_num, by rw [hlt2, hts, flat_append]; simpa [htk, flat] using hown', hB⟩
        case measure => simp [intOf]; omega
    · have e : ps.take m = ps.take k := by
        rcases Nat.lt_or_ge k ps.length with h | h
        · obtain rfl : k = m := by omega
          rfl
        · rw [List.take_of_length_le h, List.take_of_length_le (by omega)]
      by_cases hk1 : k < ps.length
      · have hk2 : ¬ k < m := fun h => hlt ⟨hk1, h⟩
        clear hlt
        go_wp2
        go_ret
        exact ⟨_, rfl, by rw [e]; exact hown, hnx⟩
      · clear hlt
        go_wp2
        go_ret
        exact ⟨_, rfl, by rw [e]; exact hown, hnx⟩

/-! ### Keys -/
def keyZ (p : Int × Int) : Int := p.1 * 4294967296 + p.2
set_option maxHeartbeats 800000 in
theorem rkey_c (x y : Int) (w : World) (hx0 : 0 ≤ x) (hx1 : x ≤ 4294967295) (hy0 : 0 ≤ y) (hy1 : y ≤ 4294967295) :
    Calls Try.prog 15 #[.agg #[.int .u32 x, .int .u32 y]] w fun e w' => e = .returned (.int .u64 (keyZ (x, y))) ∧ Below w.heap.size w w' := by
  go_enter Try.func15, Try.ntmps15
  go_wp2
  go_ret
  exact ⟨rfl, (Below.refl _ _).alloc (Nat.le_refl _) _⟩
theorem pack_eq {a b : Int} (h0 : 0 ≤ a) (h1 : a ≤ 4294967295) (h2 : 0 ≤ b) (h3 : b ≤ 4294967295) : bits .or .u64 (a * 4294967296) b = a * 4294967296 + b := by
  rw [Go.u64_or _ _ (by omega) (by omega) (by omega) (by omega)]
  have hj := nat_join 32 (a * 4294967296).toNat b.toNat (by omega) (by omega)
  rw [hj]; omega
set_option maxHeartbeats 800000 in
theorem pack_c (x y : Int) (w : World) (hx0 : 0 ≤ x) (hx1 : x ≤ 4294967295) (hy0 : 0 ≤ y) (hy1 : y ≤ 4294967295) :
    Calls Try.prog 13 #[.int .u32 x, .int .u32 y] w fun e w' => e = .returned (.int .u64 (keyZ (x, y))) ∧ w' = w := by
  go_enter Try.func13, Try.ntmps13
  go_wp2
  go_ret
  exact ⟨congrArg (fun z => Ending.returned (.int .u64 z)) (pack_eq hx0 hx1 hy0 hy1), rfl⟩
end Go.Proofs.Ytfjhiaafabmpbaf
