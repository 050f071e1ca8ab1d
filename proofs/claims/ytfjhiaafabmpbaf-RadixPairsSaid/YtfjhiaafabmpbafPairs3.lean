/-
  PAIRS IN ORDER, EACH ONCE: the program's and the reference's, by contract.
-/
import Derived.Test.YtfjhiaafabmpbafPairs2
import Derived.Test.YtfjhiaafabmpbafROrder
namespace Go.Proofs.Ytfjhiaafabmpbaf
open Go.ChangeShapes Go.WideShapes Go.ChangeAt Go.RowKit

set_option maxHeartbeats 1600000 in
set_option maxRecDepth 100000 in
theorem samepairs_c (va vb : Value) (ps : List (Int × Int)) (w : World) (ha : HoldsP w va ps) (hb : HoldsP w vb ps) (hx : ps.length ≤ 1000) :
    Calls Try.prog 9 #[va, vb] w fun e w' => e = .returned (.bool true) ∧ Below w.heap.size w w' := by
  obtain ⟨a, ca, rfl, hra⟩ := ha
  obtain ⟨b, cb, rfl, hrb⟩ := hb
  go_enter Try.func9, Try.ntmps9
  go_wp2
  go_loopw [5] (fun i wr => ∃ k : Nat, k ≤ ps.length ∧ i = .int .i64 k ∧ Below w.heap.size w wr) (fun i _ => ps.length - (intOf i).toNat)
  case atStart => exact ⟨0, Nat.zero_le _, rfl, Below.refl _ _⟩
  case round =>
    obtain ⟨k, hk, rfl, hnx⟩ := hrel
    by_cases hlt : k < ps.length
    · obtain ⟨b1, o1, rfl, hb1, hc1, hc2⟩ := pairs_at hra hlt
      obtain ⟨b2, o2, rfl, hb2, hc3, hc4⟩ := pairs_at hrb hlt
      have hx1 : wr.cell? ⟨b1, o1 + k * 2, none⟩ = some (.int .u32 (ps.getD k (0, 0)).1) := (hnx.cell (by exact hb1)).trans hc1
      have hx2 : wr.cell? ⟨b1, o1 + k * 2 + 1, none⟩ = some (.int .u32 (ps.getD k (0, 0)).2) := (hnx.cell (by exact hb1)).trans hc2
      have hx3 : wr.cell? ⟨b2, o2 + k * 2, none⟩ = some (.int .u32 (ps.getD k (0, 0)).1) := (hnx.cell (by exact hb2)).trans hc3
      have hx4 : wr.cell? ⟨b2, o2 + k * 2 + 1, none⟩ = some (.int .u32 (ps.getD k (0, 0)).2) := (hnx.cell (by exact hb2)).trans hc4
      clear hc1 hc2 hc3 hc4
      generalize ps.getD k (0, 0) = p at *
      obtain ⟨x, y⟩ := p
      simp only at hx1 hx2 hx3 hx4
      go_wp2
      go_quiet (fail)
      go_wp2
      go_roundw
      case rel => exact ⟨k + 1, by omega, by go_num, below_drewN hnx _⟩
      case measure => simp [intOf]; omega
    · go_wp2
      go_ret
      exact ⟨rfl, hnx⟩

/-- The pairs in the order of places, and each once up to place k. -/
def ordP (ps : List (Int × Int)) (l : List Nat) : List (Int × Int) := l.map fun p => ps.getD p (0, 0)
def ddT (q : List (Int × Int)) : Nat → List (Int × Int)
  | 0 => []
  | k + 1 => if k = 0 ∨ q.getD (k - 1) (0, 0) ≠ q.getD k (0, 0) then ddT q k ++ [q.getD k (0, 0)] else ddT q k
theorem ddT_yes {q : List (Int × Int)} {k : Nat} (h : k = 0 ∨ q.getD (k - 1) (0, 0) ≠ q.getD k (0, 0)) : ddT q (k + 1) = ddT q k ++ [q.getD k (0, 0)] := by rw [ddT, if_pos h]
theorem ddT_no {q : List (Int × Int)} {k : Nat} (h : ¬ (k = 0 ∨ q.getD (k - 1) (0, 0) ≠ q.getD k (0, 0))) : ddT q (k + 1) = ddT q k := by rw [ddT, if_neg h]
theorem ddT_last (q : List (Int × Int)) : ∀ k, 0 < k → ∃ r, ddT q k = r ++ [q.getD (k - 1) (0, 0)]
  | 0, h => by omega
  | k + 1, _ => by
    by_cases h : k = 0 ∨ q.getD (k - 1) (0, 0) ≠ q.getD k (0, 0)
    · exact ⟨_, ddT_yes h⟩
    · have hk : 0 < k := by
        rcases Nat.eq_zero_or_pos k with h0 | h0
        · exact absurd (.inl h0) h
        · exact h0
      obtain ⟨r, hr⟩ := ddT_last q k hk
      refine ⟨r, ?_⟩
      rw [ddT_no h, hr]
      congr 2
      by_cases e : q.getD (k - 1) (0, 0) = q.getD k (0, 0)
      · exact e
      · exact absurd (.inr e) h
theorem ddT_len (q : List (Int × Int)) : ∀ k, (ddT q k).length ≤ k
  | 0 => Nat.le_refl _
  | k + 1 => by
    have := ddT_len q k
    by_cases h : k = 0 ∨ q.getD (k - 1) (0, 0) ≠ q.getD k (0, 0)
    · rw [ddT_yes h, List.length_append, List.length_singleton]; omega
    · rw [ddT_no h]; omega
theorem ordP_at (ps : List (Int × Int)) (l : List Nat) {k : Nat} (hk : k < l.length) : (ordP ps l).getD k (0, 0) = ps.getD (l.getD k 0) (0, 0) := by simp [ordP, List.getD, hk]

theorem natsV_at {w : World} {a : Option Addr} {l : List Nat} (h : RowAt w a (natsV l)) {k : Nat} (hk : k < l.length) : ∃ b off, a = some ⟨b, off, none⟩ ∧ b < w.heap.size ∧ w.cell? ⟨b, off + k, none⟩ = some (.int .i64 (l.getD k 0 : Nat)) := by
  rcases h with h0 | ⟨b, off, rfl, hb, hc⟩
  · simp only [natsV, List.map_eq_nil_iff] at h0; subst h0; simp at hk
  · exact ⟨b, off, rfl, hb, hc k _ (by simp [natsV, List.getD, hk])⟩

theorem own_ne {w : World} {b1 b2 e1 e2 s1 s2 n1 n2 : Nat} {v1 v2 : Value} {x1 x2 : List Value} (h1 : w.ownsRow b1 e1 s1 v1 n1 x1) (h2 : w.ownsRow b2 e2 s2 v2 n2 x2) (he : e1 ≠ e2) : v1.ownBlock = none ∨ v1.ownBlock ≠ v2.ownBlock := by
  rcases h1.2 with ⟨rfl, _⟩ | ⟨g, c, cur, rfl, _, hg, _⟩
  · exact .inl rfl
  · rcases h2.2 with ⟨rfl, _⟩ | ⟨g', c', cur', rfl, _, hg', _⟩
    · exact .inr (by simp [Value.ownBlock])
    · refine .inr fun e => ?_
      simp only [Value.ownBlock, Option.some.injEq] at e
      subst e
      rw [hg] at hg'
      simp only [Option.some.injEq, Obj.cells.injEq] at hg'
      exact he hg'.2.1
theorem own_form {w : World} {b e sz n : Nat} {v : Value} {xs : List Value} (h : w.ownsRow b e sz v n xs) (hn : 0 < n) : ∃ g c, v = .slice (some ⟨g, 0, none⟩) n c ∧ n ≤ c := by
  rcases h.2 with ⟨_, h0⟩ | ⟨g, c, cur, h1, _, _, h4, _⟩
  · omega
  · exact ⟨g, c, h1, h4⟩
set_option maxHeartbeats 3200000 in
set_option maxRecDepth 1000000 in
theorem rsort_c (v : Value) (ps : List (Int × Int)) (w : World) (hv : HoldsP w v ps) (hz : ps.length ≤ 1000) (hw : WfP ps) :
    Calls Try.prog 11 #[v] w fun e w' => ∃ v' l, e = .returned v' ∧ Ordered (keyOf (keysOf ps)) ps.length l ∧ w'.ownsRow w.heap.size 36 2 v' (ddT (ordP ps l) ps.length).length (flat (ddT (ordP ps l) ps.length)) ∧ Below w.heap.size w w' := by
  have hkeys := fun w' (h : Below w.heap.size w w') => rkeys_c v ps w' (hv.below h) hz hw
  have hord := fun (vk : Value) (w' : World) hk => rorder_c vk (keysOf ps) w' hk (by rw [keysOf_len]; exact hz) (keysOf_wf hw)
  rw [keysOf_len] at hord
  obtain ⟨a, cap, rfl, hrow⟩ := hv
  obtain ⟨i0, hi, hz0, hz1, hz2⟩ := info_parts infoP
  go_enter Try.func11, Try.ntmps11
  go_wp2_with fail
  have hA : Below w.heap.size w (w.alloc (.cells #[] 36)) := (Below.refl _ _).alloc (Nat.le_refl _) _
  have hO : (w.alloc (.cells #[] 36)).ownsRow w.heap.size 36 2 (.slice (some ⟨w.heap.size, 0, none⟩) 0 0) 0 [] := World.ownsRow_made w #[] 0 (Nat.le_refl _) (by unfold maxLen; omega) rfl
  refine (hkeys _ hA).mono ?_
  rintro e w1 ⟨v1, rfl, ho1, hB1⟩
  have hO := owns_keep hO hB1
  have hA := hA.trans (hB1.mono hA.size)
  have hh1 := holds_of_owns ho1
  clear ho1 hB1 hkeys
  go_wp2_with fail
  refine (hord _ _ hh1).mono ?_
  rintro e w2 ⟨v2, l, rfl, hl, ho2, hB2⟩
  have hO := owns_keep hO hB2
  have hA2 := hA.trans (hB2.mono hA.size)
  have hll := hl.len
  clear hB2 hh1 hord hA
  go_wp2
  go_loopw [3, 5] (fun u i wr => ∃ k : Nat, k ≤ ps.length ∧ i = .int .i64 k ∧ wr.ownsRow w.heap.size 36 2 u (ddT (ordP ps l) k).length (flat (ddT (ordP ps l) k)) ∧ wr.ownsRow w1.heap.size 3 1 v2 ps.length (natsV l) ∧ Below w.heap.size w wr)
    (fun _ i _ => ps.length - (intOf i).toNat)
  case atStart => exact ⟨0, Nat.zero_le _, rfl, hO, ho2, hA2⟩
  case round =>
    clear hO ho2 hA2
    obtain ⟨k, hk, rfl, hown, hal, hnx⟩ := hrel
    have hvl : ∃ aA cA, v2 = .slice aA ps.length cA := by
      rcases hal.2 with ⟨h1, h2⟩ | ⟨g, c, cur, h1, _⟩
      · exact ⟨none, 0, by rw [h1, h2]⟩
      · exact ⟨_, c, h1⟩
    by_cases hlt : k < ps.length
    · obtain ⟨gA, cA, rfl, _⟩ := own_form hal (by omega)
      have hne := own_ne hal hown (by decide)
      have hlk : k < l.length := by omega
      have hpk : l.getD k 0 < ps.length := (hl.2 _).1 (by simp [List.getD, hlk])
      obtain ⟨b, off, rfl, hb, hc1, hc2⟩ := pairs_at hrow hpk
      have hx1 : wr.cell? ⟨b, off + l.getD k 0 * 2, none⟩ = some (.int .u32 (ps.getD (l.getD k 0) (0, 0)).1) := (hnx.cell (by exact hb)).trans hc1
      have hx2 : wr.cell? ⟨b, off + l.getD k 0 * 2 + 1, none⟩ = some (.int .u32 (ps.getD (l.getD k 0) (0, 0)).2) := (hnx.cell (by exact hb)).trans hc2
      have ha1 : wr.cell? ⟨gA, k, none⟩ = some (.int .i64 (l.getD k 0 : Nat)) := by rw [hal.cellAt k (by omega)]; simp [natsV, List.getD, hlk]
      have hqk := ordP_at ps l hlk
      have hyes := ddT_yes (q := ordP ps l) (k := k)
      have hno := ddT_no (q := ordP ps l) (k := k)
      have hlen := ddT_len (ordP ps l) k
      have hszw := hnx.size
      rw [hqk] at hyes hno
      clear hc1 hc2 hvl
      by_cases hk0 : k = 0
      · subst hk0
        have hst : Hid (ddT (ordP ps l) (0 + 1) = ddT (ordP ps l) 0 ++ [ps.getD (l.getD 0 0) (0, 0)]) := hyes (.inl rfl)
        clear hyes hno hqk
        generalize ps.getD (l.getD 0 0) (0, 0) = p at *
        generalize l.getD 0 0 = p1 at *
        obtain ⟨x, y⟩ := p
        simp only at hx1 hx2
        go_wp2
        go_quiet (fail)
        have hq := below_drewN hnx nq
        have hownq : (wr.drewN nq).ownsRow w.heap.size 36 2 _ _ _ := hown
        have halq : (wr.drewN nq).ownsRow w1.heap.size 3 1 _ _ _ := hal
        have hx1q : (wr.drewN nq).cell? _ = _ := hx1
        have hx2q : (wr.drewN nq).cell? _ = _ := hx2
        have ha1q : (wr.drewN nq).cell? _ = _ := ha1
        generalize wr.drewN nq = wq at *
        have hszq := hq.size
        go_wp2_with (at_builtin; refine wpList_append_own _ rfl _ _ 22 rfl w.heap.size 36 i0 (.agg #[.int .u32 0, .int .u32 0]) 2 8 Try.underlying22 hi hz0 hz1 hz2 rfl (by decide) _ _ _ rfl (hownq.alloc _) ⟨wq.heap.size, 0, none⟩ 1 1 [.int .u32 x, .int .u32 y] rfl rfl (cell_two_new _ _ _ _) ?c2 ?c3 ?c4 ?c5 ?_)
        case c2 => intro u hu; simp at hu; rcases hu with rfl | rfl <;> rfl
        case c3 => unfold maxLen; omega
        case c4 => omega
        case c5 => simp; omega
        · intro v' w3 hown' hgrow _
          have hB : Below w.heap.size w w3 := (hq.alloc hszq _).grown hgrow (by simp; omega) (fun j hj => by have := (hownq.lt j hj).1; omega)
          have hal' := (halq.alloc (.cells #[.int .u32 x, .int .u32 y] 36)).kept hgrow hne
          have hown2 : w3.ownsRow w.heap.size 36 2 v' (ddT (ordP ps l) (0 + 1)).length (flat (ddT (ordP ps l) (0 + 1))) := by
            rw [hst.out, flat_append, List.length_append]
            simpa [flat] using hown'
          clear hgrow hown hx1 hx2 hnx hal hownq halq hx1q hx2q ha1q
          go_wp2
          go_roundw
          case rel => exact ⟨0 + 1, by omega, by go_num, hown2, hal', hB⟩
          case measure => simp [intOf]; omega
      · have hlk0 : k - 1 < l.length := by omega
        have hp0 : l.getD (k - 1) 0 < ps.length := (hl.2 _).1 (by simp [List.getD, hlk0])
        obtain ⟨_, _, hab, _, hc3, hc4⟩ := pairs_at hrow hp0
        cases hab
        have hx3 : wr.cell? ⟨b, off + l.getD (k - 1) 0 * 2, none⟩ = some (.int .u32 (ps.getD (l.getD (k - 1) 0) (0, 0)).1) := (hnx.cell (by exact hb)).trans hc3
        have hx4 : wr.cell? ⟨b, off + l.getD (k - 1) 0 * 2 + 1, none⟩ = some (.int .u32 (ps.getD (l.getD (k - 1) 0) (0, 0)).2) := (hnx.cell (by exact hb)).trans hc4
        have ha0 : wr.cell? ⟨gA, k - 1, none⟩ = some (.int .i64 (l.getD (k - 1) 0 : Nat)) := by rw [hal.cellAt (k - 1) (by omega)]; simp [natsV, List.getD, hlk0]
        have hnm : ((k : Int) - 1).toNat = k - 1 := by omega
        have hk1 : ((k : Int) == 0) = false := by rw [beq_eq_false_iff_ne]; omega
        have hqk0 := ordP_at ps l hlk0
        rw [hqk0] at hyes hno
        clear hc3 hc4 hqk hqk0
        generalize ps.getD (l.getD k 0) (0, 0) = p at *
        generalize ps.getD (l.getD (k - 1) 0) (0, 0) = p' at *
        generalize l.getD k 0 = p1 at *
        generalize l.getD (k - 1) 0 = p2 at *
        obtain ⟨x, y⟩ := p
        obtain ⟨x0, y0⟩ := p'
        simp only at hx1 hx2 hx3 hx4
        by_cases he : x0 = x ∧ y0 = y
        · obtain ⟨rfl, rfl⟩ := he
          have hst : Hid (ddT (ordP ps l) (k + 1) = ddT (ordP ps l) k) := hno (by rintro (h | h) <;> first | omega | exact h rfl)
          clear hyes hno
          go_wp2
          go_quiet (fail)
          go_wp2
          go_roundw
          case rel => exact ⟨k + 1, by omega, by go_num, by rw [hst.out]; exact hown, hal, below_drewN hnx _⟩
          case measure => simp [intOf]; omega
        · have hst : Hid (ddT (ordP ps l) (k + 1) = ddT (ordP ps l) k ++ [(x, y)]) := hyes (.inr fun e => he (by cases e; exact ⟨rfl, rfl⟩))
          clear hyes hno
          by_cases hxx : x0 = x
          · have hyy : ¬ y0 = y := fun e => he ⟨hxx, e⟩
            subst hxx
            have hd1 : (y0 == y) = false := by rw [beq_eq_false_iff_ne]; exact hyy
            clear he
            go_wp2
            go_quiet (fail)
            have hq := below_drewN hnx nq
            have hownq : (wr.drewN nq).ownsRow w.heap.size 36 2 _ _ _ := hown
            have halq : (wr.drewN nq).ownsRow w1.heap.size 3 1 _ _ _ := hal
            have hx1q : (wr.drewN nq).cell? _ = _ := hx1
            have hx2q : (wr.drewN nq).cell? _ = _ := hx2
            have ha1q : (wr.drewN nq).cell? _ = _ := ha1
            generalize wr.drewN nq = wq at *
            have hszq := hq.size
            go_wp2_with (at_builtin; refine wpList_append_own _ rfl _ _ 22 rfl w.heap.size 36 i0 (.agg #[.int .u32 0, .int .u32 0]) 2 8 Try.underlying22 hi hz0 hz1 hz2 rfl (by decide) _ _ _ rfl (hownq.alloc _) ⟨wq.heap.size, 0, none⟩ 1 1 [.int .u32 x0, .int .u32 y] rfl rfl (cell_two_new _ _ _ _) ?c2 ?c3 ?c4 ?c5 ?_)
            case c2 => intro u hu; simp at hu; rcases hu with rfl | rfl <;> rfl
            case c3 => unfold maxLen; omega
            case c4 => omega
            case c5 => simp; omega
            · intro v' w3 hown' hgrow _
              have hB : Below w.heap.size w w3 := (hq.alloc hszq _).grown hgrow (by simp; omega) (fun j hj => by have := (hownq.lt j hj).1; omega)
              have hal' := (halq.alloc (.cells #[.int .u32 x0, .int .u32 y] 36)).kept hgrow hne
              have hown2 : w3.ownsRow w.heap.size 36 2 v' (ddT (ordP ps l) (k + 1)).length (flat (ddT (ordP ps l) (k + 1))) := by
                rw [hst.out, flat_append, List.length_append]
                simpa [flat] using hown'
              clear hgrow hown hx1 hx2 hnx hal hownq halq hx1q hx2q ha1q
              go_wp2
              go_roundw
              case rel => exact ⟨k + 1, by omega, by go_num, hown2, hal', hB⟩
              case measure => simp [intOf]; omega
          · have hd1 : (x0 == x) = false := by rw [beq_eq_false_iff_ne]; exact hxx
            clear he
            go_wp2
            go_quiet (fail)
            have hq := below_drewN hnx nq
            have hownq : (wr.drewN nq).ownsRow w.heap.size 36 2 _ _ _ := hown
            have halq : (wr.drewN nq).ownsRow w1.heap.size 3 1 _ _ _ := hal
            have hx1q : (wr.drewN nq).cell? _ = _ := hx1
            have hx2q : (wr.drewN nq).cell? _ = _ := hx2
            have ha1q : (wr.drewN nq).cell? _ = _ := ha1
            generalize wr.drewN nq = wq at *
            have hszq := hq.size
            go_wp2_with (at_builtin; refine wpList_append_own _ rfl _ _ 22 rfl w.heap.size 36 i0 (.agg #[.int .u32 0, .int .u32 0]) 2 8 Try.underlying22 hi hz0 hz1 hz2 rfl (by decide) _ _ _ rfl (hownq.alloc _) ⟨wq.heap.size, 0, none⟩ 1 1 [.int .u32 x, .int .u32 y] rfl rfl (cell_two_new _ _ _ _) ?c2 ?c3 ?c4 ?c5 ?_)
            case c2 => intro u hu; simp at hu; rcases hu with rfl | rfl <;> rfl
            case c3 => unfold maxLen; omega
            case c4 => omega
            case c5 => simp; omega
            · intro v' w3 hown' hgrow _
              have hB : Below w.heap.size w w3 := (hq.alloc hszq _).grown hgrow (by simp; omega) (fun j hj => by have := (hownq.lt j hj).1; omega)
              have hal' := (halq.alloc (.cells #[.int .u32 x, .int .u32 y] 36)).kept hgrow hne
              have hown2 : w3.ownsRow w.heap.size 36 2 v' (ddT (ordP ps l) (k + 1)).length (flat (ddT (ordP ps l) (k + 1))) := by
                rw [hst.out, flat_append, List.length_append]
                simpa [flat] using hown'
              clear hgrow hown hx1 hx2 hnx hal hownq halq hx1q hx2q ha1q
              go_wp2
              go_roundw
              case rel => exact ⟨k + 1, by omega, by go_num, hown2, hal', hB⟩
              case measure => simp [intOf]; omega
    · obtain rfl : k = ps.length := by omega
      obtain ⟨aA, cA, rfl⟩ := hvl
      go_wp2
      go_ret
      exact ⟨_, l, rfl, hl, hown, hnx⟩

theorem flat_last (r : List (Int × Int)) (x y : Int) : (flat (r ++ [(x, y)]))[r.length * 2]? = some (.int .u32 x) ∧ (flat (r ++ [(x, y)]))[r.length * 2 + 1]? = some (.int .u32 y) := by
  have h := flat_at (r ++ [(x, y)]) r.length (by simp)
  have e : (r ++ [(x, y)]).getD r.length (0, 0) = (x, y) := by simp [List.getD]
  rw [e] at h
  exact h
set_option maxHeartbeats 3200000 in
set_option maxRecDepth 1000000 in
theorem sort_c (v : Value) (ps : List (Int × Int)) (w : World) (hv : HoldsP w v ps) (hz : ps.length ≤ 1000) (hw : WfP ps) :
    Calls Try.prog 10 #[v] w fun e w' => ∃ v' l, e = .returned v' ∧ Ordered (keyOf (keysOf ps)) ps.length l ∧ w'.ownsRow w.heap.size 36 2 v' (ddT (ordP ps l) ps.length).length (flat (ddT (ordP ps l) ps.length)) ∧ Below w.heap.size w w' := by
  have hpairs := fun w' (h : Below w.heap.size w w') => pairs_c v ps w' (hv.below h) hz hw
  obtain ⟨a, cap, rfl, hrow⟩ := hv
  obtain ⟨i0, hi, hz0, hz1, hz2⟩ := info_parts infoP
  go_enter Try.func10, Try.ntmps10
  go_wp2_with (refine wpList_make_own _ rfl _ _ 22 rfl w.heap.size 36 i0 (.agg #[.int .u32 0, .int .u32 0]) 2 Try.underlying22 hi hz0 hz1 .i64 .i64 _ ps.length rfl rfl rfl ?d2 ?d3 ?d4 ?_)
  case d2 => rw [hz2]; omega
  case d3 => unfold maxLen; omega
  case d4 => omega
  intro w0 hO hgrow0
  have hA : Below w.heap.size w w0 := (Below.refl _ _).grown hgrow0 (Nat.le_refl _) (fun j hj => by cases hj)
  clear hgrow0
  go_wp2_with fail
  refine (hpairs _ hA).mono ?_
  rintro e w2 ⟨v2, l, rfl, hl, ho2, hB2⟩
  have hO := owns_keep hO hB2
  have hA2 := hA.trans (hB2.mono hA.size)
  have hll := hl.len
  have hvl : ∃ aA cA, v2 = .slice aA ps.length cA := by
    rcases ho2.2 with ⟨h1, h2⟩ | ⟨g, c, cur, h1, _⟩
    · exact ⟨none, 0, by rw [h1, h2]⟩
    · exact ⟨_, c, h1⟩
  obtain ⟨aA, cA, rfl⟩ := hvl
  clear hB2 hpairs
  go_wp2
  go_loopw [3, 14] (fun u i wr => ∃ k : Nat, k ≤ ps.length ∧ i = .int .i64 k ∧ wr.ownsRow w.heap.size 36 2 u (ddT (ordP ps l) k).length (flat (ddT (ordP ps l) k)) ∧ wr.ownsRow w0.heap.size 3 1 (.slice aA ps.length cA) ps.length (natsV l) ∧ Below w.heap.size w wr)
    (fun _ i _ => ps.length - (intOf i).toNat)
  case atStart => exact ⟨0, Nat.zero_le _, rfl, hO, ho2, hA2⟩
  case round =>
    clear hO ho2 hA2
    obtain ⟨k, hk, rfl, hown, hal, hnx⟩ := hrel
    by_cases hlt : k < ps.length
    · obtain ⟨gA, cA', hsl, _⟩ := own_form hal (by omega)
      simp only [Value.slice.injEq, true_and] at hsl
      obtain ⟨rfl, rfl⟩ := hsl
      have hne := own_ne hal hown (by decide)
      have hlk : k < l.length := by omega
      have hpk : l.getD k 0 < ps.length := (hl.2 _).1 (by simp [List.getD, hlk])
      obtain ⟨b, off, rfl, hb, hc1, hc2⟩ := pairs_at hrow hpk
      have hx1 : wr.cell? ⟨b, off + l.getD k 0 * 2, none⟩ = some (.int .u32 (ps.getD (l.getD k 0) (0, 0)).1) := (hnx.cell (by exact hb)).trans hc1
      have hx2 : wr.cell? ⟨b, off + l.getD k 0 * 2 + 1, none⟩ = some (.int .u32 (ps.getD (l.getD k 0) (0, 0)).2) := (hnx.cell (by exact hb)).trans hc2
      have ha1 : wr.cell? ⟨gA, k, none⟩ = some (.int .i64 (l.getD k 0 : Nat)) := by rw [hal.cellAt k (by omega)]; simp [natsV, List.getD, hlk]
      have hqk := ordP_at ps l hlk
      have hyes := ddT_yes (q := ordP ps l) (k := k)
      have hno := ddT_no (q := ordP ps l) (k := k)
      have hlast := ddT_last (ordP ps l) k
      have hlen := ddT_len (ordP ps l) k
      have hszw := hnx.size
      rw [hqk] at hyes hno
      clear hc1 hc2 hqk
      by_cases hk0 : k = 0
      · subst hk0
        have hst : Hid (ddT (ordP ps l) (0 + 1) = ddT (ordP ps l) 0 ++ [ps.getD (l.getD 0 0) (0, 0)]) := hyes (.inl rfl)
        clear hyes hno hlast
        generalize ps.getD (l.getD 0 0) (0, 0) = p at *
        generalize l.getD 0 0 = p1 at *
        obtain ⟨x, y⟩ := p
        simp only at hx1 hx2
        obtain ⟨au, cu, rfl⟩ : ∃ au cu, u3 = .slice au 0 cu := by
          rcases hown.2 with ⟨h1, h2⟩ | ⟨g, c, cur, h1, _⟩
          · exact ⟨none, 0, h1⟩
          · exact ⟨_, c, h1⟩
        go_wp2
        go_quiet (fail)
        have hq : Below w.heap.size w ((wr.alloc (.cells #[.int .u32 x, .int .u32 y] 36)).drewN nq) := below_drewN (hnx.alloc hszw _) nq
        have hownq : ((wr.alloc (.cells #[.int .u32 x, .int .u32 y] 36)).drewN nq).ownsRow w.heap.size 36 2 _ _ _ := hown.alloc (.cells #[.int .u32 x, .int .u32 y] 36)
        have halq : ((wr.alloc (.cells #[.int .u32 x, .int .u32 y] 36)).drewN nq).ownsRow w0.heap.size 3 1 _ _ _ := hal.alloc (.cells #[.int .u32 x, .int .u32 y] 36)
        have hpx : ((wr.alloc (.cells #[.int .u32 x, .int .u32 y] 36)).drewN nq).cell? ⟨wr.heap.size, 0, none⟩ = some (.int .u32 x) := by simp
        have hpy : ((wr.alloc (.cells #[.int .u32 x, .int .u32 y] 36)).drewN nq).cell? ⟨wr.heap.size, 1, none⟩ = some (.int .u32 y) := by simp
        generalize (wr.alloc (.cells #[.int .u32 x, .int .u32 y] 36)).drewN nq = wq at *
        have hszq := hq.size
        go_wp2_with (at_builtin; refine wpList_append_own _ rfl _ _ 22 rfl w.heap.size 36 i0 (.agg #[.int .u32 0, .int .u32 0]) 2 8 Try.underlying22 hi hz0 hz1 hz2 rfl (by decide) _ _ _ rfl (hownq.alloc _) ⟨wq.heap.size, 0, none⟩ 1 1 [.int .u32 x, .int .u32 y] rfl rfl (cell_two_new _ _ _ _) ?c2 ?c3 ?c4 ?c5 ?_)
        case c2 => intro u hu; simp at hu; rcases hu with rfl | rfl <;> rfl
        case c3 => first | (unfold maxLen; omega) | (rw [List.length_append, List.length_singleton]; unfold maxLen; omega)
        case c4 => first | omega | (rw [List.length_append, List.length_singleton]; omega)
        case c5 => simp; omega
        · intro v' w3 hown' hgrow _
          have hB : Below w.heap.size w w3 := (hq.alloc hszq _).grown hgrow (by simp; omega) (fun j hj => by have := (hownq.lt j hj).1; omega)
          have hal' := (halq.alloc (.cells #[.int .u32 x, .int .u32 y] 36)).kept hgrow hne
          have hown2 : w3.ownsRow w.heap.size 36 2 v' (ddT (ordP ps l) (0 + 1)).length (flat (ddT (ordP ps l) (0 + 1))) := by
            rw [hst.out, flat_append, List.length_append]
            simpa [flat] using hown'
          clear hgrow hown hx1 hx2 hnx hal hownq halq hpx hpy
          go_wp2
          go_roundw
          case rel => exact ⟨0 + 1, by omega, by go_num, hown2, hal', hB⟩
          case measure => simp [intOf]; omega
      · obtain ⟨r, hr⟩ := hlast (by omega)
        rw [hr] at hyes hno hown
        have hlr : r.length + 1 ≤ k := by rw [hr, List.length_append, List.length_singleton] at hlen; exact hlen
        have hrH : Hid (ddT (ordP ps l) k = r ++ [(ordP ps l).getD (k - 1) (0, 0)]) := hr
        clear hr hlast hlen
        generalize ps.getD (l.getD k 0) (0, 0) = p at *
        generalize (ordP ps l).getD (k - 1) (0, 0) = p' at *
        generalize l.getD k 0 = p1 at *
        obtain ⟨x, y⟩ := p
        obtain ⟨x0, y0⟩ := p'
        simp only at hx1 hx2
        rw [List.length_append, List.length_singleton] at hown
        obtain ⟨gS, cS, rfl, _⟩ := own_form hown (by omega)
        obtain ⟨hf1, hf2⟩ := flat_last r x0 y0
        have hs1 : wr.cell? ⟨gS, r.length * 2, none⟩ = some (.int .u32 x0) := by rw [hown.cellAt _ (by omega)]; exact hf1
        have hs2 : wr.cell? ⟨gS, r.length * 2 + 1, none⟩ = some (.int .u32 y0) := by rw [hown.cellAt _ (by omega)]; exact hf2
        have hgS := (hown.lt gS rfl).2
        have hs1' : (wr.alloc (.cells #[.int .u32 x, .int .u32 y] 36)).cell? ⟨gS, r.length * 2, none⟩ = some (.int .u32 x0) := by rw [World.cell?_alloc_lt wr _ _ hgS]; exact hs1
        have hs2' : (wr.alloc (.cells #[.int .u32 x, .int .u32 y] 36)).cell? ⟨gS, r.length * 2 + 1, none⟩ = some (.int .u32 y0) := by rw [World.cell?_alloc_lt wr _ _ hgS]; exact hs2
        have hm0 : (((r.length : Nat) : Int) + 1 == 0) = false := by rw [beq_eq_false_iff_ne]; omega
        clear hf1 hf2 hs1 hs2
        by_cases he : x0 = x ∧ y0 = y
        · obtain ⟨rfl, rfl⟩ := he
          have hst : Hid (ddT (ordP ps l) (k + 1) = ddT (ordP ps l) k) := by
            show _ = _
            rw [hno (by rintro (h | h) <;> first | omega | exact h rfl), hrH.out]
          have hown2 : wr.ownsRow w.heap.size 36 2 (.slice (some ⟨gS, 0, none⟩) (r.length + 1) cS) (ddT (ordP ps l) (k + 1)).length (flat (ddT (ordP ps l) (k + 1))) := by
            rw [hst.out, hrH.out, List.length_append, List.length_singleton]; exact hown
          clear hyes hno
          go_wp2
          go_quiet (fail)
          go_wp2
          go_roundw
          case rel => exact ⟨k + 1, by omega, by go_num, hown2.alloc _, hal.alloc _, below_drewN (hnx.alloc hszw _) _⟩
          case measure => simp [intOf]; omega
        · have hst : Hid (ddT (ordP ps l) (k + 1) = (r ++ [(x0, y0)]) ++ [(x, y)]) := hyes (.inr fun e => he (by cases e; exact ⟨rfl, rfl⟩))
          have hown : wr.ownsRow w.heap.size 36 2 (.slice (some ⟨gS, 0, none⟩) (r.length + 1) cS) (r ++ [(x0, y0)]).length (flat (r ++ [(x0, y0)])) := by rw [List.length_append, List.length_singleton]; exact hown
          clear hyes hno
          by_cases hxx : x0 = x
          · have hyy : ¬ y0 = y := fun e => he ⟨hxx, e⟩
            subst hxx
            have hd1 : (y0 == y) = false := by rw [beq_eq_false_iff_ne]; exact hyy
            clear he
            go_wp2
            go_quiet (fail)
            have hq : Below w.heap.size w ((wr.alloc (.cells #[.int .u32 x0, .int .u32 y] 36)).drewN nq) := below_drewN (hnx.alloc hszw _) nq
            have hownq : ((wr.alloc (.cells #[.int .u32 x0, .int .u32 y] 36)).drewN nq).ownsRow w.heap.size 36 2 _ _ _ := hown.alloc (.cells #[.int .u32 x0, .int .u32 y] 36)
            have halq : ((wr.alloc (.cells #[.int .u32 x0, .int .u32 y] 36)).drewN nq).ownsRow w0.heap.size 3 1 _ _ _ := hal.alloc (.cells #[.int .u32 x0, .int .u32 y] 36)
            have hpx : ((wr.alloc (.cells #[.int .u32 x0, .int .u32 y] 36)).drewN nq).cell? ⟨wr.heap.size, 0, none⟩ = some (.int .u32 x0) := by simp
            have hpy : ((wr.alloc (.cells #[.int .u32 x0, .int .u32 y] 36)).drewN nq).cell? ⟨wr.heap.size, 1, none⟩ = some (.int .u32 y) := by simp
            generalize (wr.alloc (.cells #[.int .u32 x0, .int .u32 y] 36)).drewN nq = wq at *
            have hszq := hq.size
            go_wp2_with (at_builtin; refine wpList_append_own _ rfl _ _ 22 rfl w.heap.size 36 i0 (.agg #[.int .u32 0, .int .u32 0]) 2 8 Try.underlying22 hi hz0 hz1 hz2 rfl (by decide) _ _ _ rfl (hownq.alloc _) ⟨wq.heap.size, 0, none⟩ 1 1 [.int .u32 x0, .int .u32 y] rfl rfl (cell_two_new _ _ _ _) ?c2 ?c3 ?c4 ?c5 ?_)
            case c2 => intro u hu; simp at hu; rcases hu with rfl | rfl <;> rfl
            case c3 => first | (unfold maxLen; omega) | (rw [List.length_append, List.length_singleton]; unfold maxLen; omega)
            case c4 => first | omega | (rw [List.length_append, List.length_singleton]; omega)
            case c5 => simp; omega
            · intro v' w3 hown' hgrow _
              have hB : Below w.heap.size w w3 := (hq.alloc hszq _).grown hgrow (by simp; omega) (fun j hj => by have := (hownq.lt j hj).1; omega)
              have hal' := (halq.alloc (.cells #[.int .u32 x0, .int .u32 y] 36)).kept hgrow hne
              have hown2 : w3.ownsRow w.heap.size 36 2 v' (ddT (ordP ps l) (k + 1)).length (flat (ddT (ordP ps l) (k + 1))) := by
                rw [hst.out, flat_append, List.length_append]
                simpa [flat] using hown'
              clear hgrow hown hx1 hx2 hnx hal hownq halq hpx hpy
              go_wp2
              go_roundw
              case rel => exact ⟨k + 1, by omega, by go_num, hown2, hal', hB⟩
              case measure => simp [intOf]; omega
          · have hd1 : (x0 == x) = false := by rw [beq_eq_false_iff_ne]; exact hxx
            clear he
            go_wp2
            go_quiet (fail)
            have hq : Below w.heap.size w ((wr.alloc (.cells #[.int .u32 x, .int .u32 y] 36)).drewN nq) := below_drewN (hnx.alloc hszw _) nq
            have hownq : ((wr.alloc (.cells #[.int .u32 x, .int .u32 y] 36)).drewN nq).ownsRow w.heap.size 36 2 _ _ _ := hown.alloc (.cells #[.int .u32 x, .int .u32 y] 36)
            have halq : ((wr.alloc (.cells #[.int .u32 x, .int .u32 y] 36)).drewN nq).ownsRow w0.heap.size 3 1 _ _ _ := hal.alloc (.cells #[.int .u32 x, .int .u32 y] 36)
            have hpx : ((wr.alloc (.cells #[.int .u32 x, .int .u32 y] 36)).drewN nq).cell? ⟨wr.heap.size, 0, none⟩ = some (.int .u32 x) := by simp
            have hpy : ((wr.alloc (.cells #[.int .u32 x, .int .u32 y] 36)).drewN nq).cell? ⟨wr.heap.size, 1, none⟩ = some (.int .u32 y) := by simp
            generalize (wr.alloc (.cells #[.int .u32 x, .int .u32 y] 36)).drewN nq = wq at *
            have hszq := hq.size
            go_wp2_with (at_builtin; refine wpList_append_own _ rfl _ _ 22 rfl w.heap.size 36 i0 (.agg #[.int .u32 0, .int .u32 0]) 2 8 Try.underlying22 hi hz0 hz1 hz2 rfl (by decide) _ _ _ rfl (hownq.alloc _) ⟨wq.heap.size, 0, none⟩ 1 1 [.int .u32 x, .int .u32 y] rfl rfl (cell_two_new _ _ _ _) ?c2 ?c3 ?c4 ?c5 ?_)
            case c2 => intro u hu; simp at hu; rcases hu with rfl | rfl <;> rfl
            case c3 => first | (unfold maxLen; omega) | (rw [List.length_append, List.length_singleton]; unfold maxLen; omega)
            case c4 => first | omega | (rw [List.length_append, List.length_singleton]; omega)
            case c5 => simp; omega
            · intro v' w3 hown' hgrow _
              have hB : Below w.heap.size w w3 := (hq.alloc hszq _).grown hgrow (by simp; omega) (fun j hj => by have := (hownq.lt j hj).1; omega)
              have hal' := (halq.alloc (.cells #[.int .u32 x, .int .u32 y] 36)).kept hgrow hne
              have hown2 : w3.ownsRow w.heap.size 36 2 v' (ddT (ordP ps l) (k + 1)).length (flat (ddT (ordP ps l) (k + 1))) := by
                rw [hst.out, flat_append, List.length_append]
                simpa [flat] using hown'
              clear hgrow hown hx1 hx2 hnx hal hownq halq hpx hpy
              go_wp2
              go_roundw
              case rel => exact ⟨k + 1, by omega, by go_num, hown2, hal', hB⟩
              case measure => simp [intOf]; omega
    · obtain rfl : k = ps.length := by omega
      go_wp2
      go_ret
      exact ⟨_, l, rfl, hl, hown, hnx⟩
end Go.Proofs.Ytfjhiaafabmpbaf
