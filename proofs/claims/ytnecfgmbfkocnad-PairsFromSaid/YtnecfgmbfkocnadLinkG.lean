/-
  GOOD LINKS, AND LINKS HELD AGAINST EACH OTHER: the reference's, by contract.
-/
import Derived.Test.YtnecfgmbfkocnadLinkR
namespace Go.Proofs.Ytnecfgmbfkocnad
open Go.ChangeShapes Go.WideShapes Go.ChangeAt Go.RowKit

/-- One stands ahead of the other. -/
def Lk.less (x y : Lk) : Bool := decide (x.a < y.a ∨ x.a = y.a ∧ x.b < y.b)
set_option maxHeartbeats 1600000 in
theorem less_c (x y : Lk) (w : World) : Calls Try.prog 10 #[.agg #[.int .i64 x.a, .int .i64 x.b, .int .i64 x.c, .int .u64 x.n], .agg #[.int .i64 y.a, .int .i64 y.b, .int .i64 y.c, .int .u64 y.n]] w fun e w' => e = .returned (.bool (x.less y)) ∧ Below w.heap.size w w' := by
  obtain ⟨xa, xb, xc, xn⟩ := x
  obtain ⟨ya, yb, yc, yn⟩ := y
  simp only [Lk.less]
  go_enter Try.func10, Try.ntmps10
  go_wp2
  all_goals
    go_ret
    refine ⟨?_, ((Below.refl _ _).alloc (Nat.le_refl _) _).alloc (by show _ ≤ (w.heap.push _).size; simp) _⟩
    refine ret_bool ?_
    first | done | rfl | (simp; omega) | (simp [*]; omega) | simp [*]
/-- A link whose numbers are within their bounds. -/
def Lk.fit (x : Lk) : Prop := 0 ≤ x.a ∧ x.a ≤ 9999 ∧ 0 ≤ x.b ∧ x.b ≤ 9999 ∧ 0 ≤ x.c ∧ 1 ≤ x.n ∧ x.n ≤ 4611686018427387904
/-- The first k are good. -/
def GoodTo (ps : List Lk) (k : Nat) : Prop := ∀ j, j < k → (ps.getD j Lk.none).fit ∧ (0 < j → (ps.getD (j - 1) Lk.none).less (ps.getD j Lk.none) = true)
theorem GoodTo.next {ps : List Lk} {k : Nat} (h : GoodTo ps k) (hf : (ps.getD k Lk.none).fit) (hl : 0 < k → (ps.getD (k - 1) Lk.none).less (ps.getD k Lk.none) = true) : GoodTo ps (k + 1) := fun j hj => by
  rcases Nat.lt_or_ge j k with h2 | h2
  · exact h j h2
  · obtain rfl : j = k := by omega
    exact ⟨hf, hl⟩
/-- What Good's answer says. -/
def GoodRes (ps : List Lk) (e : Ending) : Prop := ∃ b, e = .returned (.bool b) ∧ (b = true → GoodTo ps ps.length)
set_option maxHeartbeats 3200000 in
set_option maxRecDepth 100000 in
theorem lgood_c (v : Value) (ps : List Lk) (w : World) (hv : HoldsR linkR w v ps) (hp : ps.length ≤ 1000) :
    Calls Try.prog 5 #[v] w fun e w' => GoodRes ps e ∧ Below w.heap.size w w' := by
  obtain ⟨a, cap, rfl, hrow⟩ := hv
  replace hrow := hidden hrow
  go_enter Try.func5, Try.ntmps5
  go_wp2
  go_loopw [3] (fun i wr => ∃ k : Nat, k ≤ ps.length ∧ i = .int .i64 k ∧ Hid (GoodTo ps k) ∧ Hid (Below w.heap.size w wr))
    (fun i _ => ps.length - (intOf i).toNat)
  case atStart => exact ⟨0, Nat.zero_le _, rfl, fun j hj => by omega, Below.refl _ _⟩
  case round =>
    obtain ⟨k, hk, rfl, hg, hnx⟩ := hrel
    by_cases hlt : k < ps.length
    · obtain ⟨b, off, rfl, hb, c1, c2, c3, c4⟩ := link_at (hrow.out.below hnx.out) hlt
      have hj1 : (k : Int) < (ps.length : Int) := by omega
      have hnext := hidden (fun h1 h2 => hg.out.next h1 h2)
      by_cases hfit : (ps.getD k Lk.none).fit
      · have hf := hidden hfit
        rcases Nat.eq_zero_or_pos k with rfl | hk0
        · generalize ps.getD 0 Lk.none = p at *
          obtain ⟨pa, pb, pc, pn⟩ := p
          obtain ⟨q1, q2, q3, q4, q5, q6, q7⟩ := hfit
          simp only [Nat.zero_mul, Nat.add_zero] at q1 q2 q3 q4 q5 q6 q7 c1 c2 c3 c4
          have hG : Hid (GoodTo ps 1) := hnext.out hf.out (fun h => absurd h (by omega))
          have n1 : ¬ pa < 0 := by omega
          have n2 : ¬ 9999 < pa := by omega
          have n3 : ¬ pb < 0 := by omega
          have n4 : ¬ 9999 < pb := by omega
          have n5 : ¬ pc < 0 := by omega
          have n6 : ¬ pn < 1 := by omega
          have n7 : ¬ 4611686018427387904 < pn := by omega
          have hX := hidden (heap_alloc_new wr (.cells #[.int .i64 pa, .int .i64 pb, .int .i64 pc, .int .u64 pn] 28))
          obtain ⟨⟨b0, b1, b2, b3⟩, -⟩ := box4f hX.out
          have hBA : Hid (Below w.heap.size w (wr.alloc (.cells #[.int .i64 pa, .int .i64 pb, .int .i64 pc, .int .u64 pn] 28))) := hnx.out.alloc hnx.out.size _
          clear hnext hg hf
          go_wp2
          go_quiet (fail)
          go_wp2
          go_roundw
          case rel => exact ⟨1, by omega, by go_num, hG, by first | exact hBA.out.drew | exact below_drewN hBA.out _ | exact hBA⟩
          case measure => simp [intOf]; omega
        · obtain ⟨m, rfl⟩ : ∃ m, k = m + 1 := ⟨k - 1, by omega⟩
          obtain ⟨b', off', heq, hb', d1, d2, d3, d4⟩ := link_at (hrow.out.below hnx.out) (k := m) (by omega)
          cases heq
          generalize ps.getD (m + 1) Lk.none = p at *
          rw [show m + 1 - 1 = m from rfl] at hnext
          generalize ps.getD m Lk.none = q at *
          have hless := fun z => less_c q p z
          generalize q.less p = t at *
          obtain ⟨pa, pb, pc, pn⟩ := p
          obtain ⟨qa, qb, qc, qn⟩ := q
          obtain ⟨q1, q2, q3, q4, q5, q6, q7⟩ := hfit
          simp only at q1 q2 q3 q4 q5 q6 q7 c1 c2 c3 c4 d1 d2 d3 d4 hless
          have n1 : ¬ pa < 0 := by omega
          have n2 : ¬ 9999 < pa := by omega
          have n3 : ¬ pb < 0 := by omega
          have n4 : ¬ 9999 < pb := by omega
          have n5 : ¬ pc < 0 := by omega
          have n6 : ¬ pn < 1 := by omega
          have n7 : ¬ 4611686018427387904 < pn := by omega
          have n8 : IntKind.i64.wrap (((m + 1 : Nat) : Int) - 1) = (m : Int) := by rw [IntKind.wrap_i64]; omega
          have n11 : IntKind.i64.wrap (m : Int) = (m : Int) := by rw [IntKind.wrap_i64]; omega
          have hj2 : (m : Int) < (ps.length : Int) := by omega
          have n9 : (0 : Int) < ((m + 1 : Nat) : Int) := by omega
          have hX := hidden (heap_alloc_new wr (.cells #[.int .i64 pa, .int .i64 pb, .int .i64 pc, .int .u64 pn] 28))
          obtain ⟨⟨b0, b1, b2, b3⟩, -⟩ := box4f hX.out
          have hBA : Hid (Below w.heap.size w (wr.alloc (.cells #[.int .i64 pa, .int .i64 pb, .int .i64 pc, .int .u64 pn] 28))) := hnx.out.alloc hnx.out.size _
          have hsz := hidden hnx.out.size
          clear hg q1 q2 q3 q4 q5 q6 q7
          have n10 : (m : Int) + 1 < (ps.length : Int) := by omega
          cases t with
          | true =>
            have hG : Hid (GoodTo ps (m + 1 + 1)) := hnext.out hf.out (fun _ => rfl)
            clear hnext hf
            go_wp2_with fail
            go_region_with (first | (go_at_call 10; refine (hless _).mono ?_; rintro e w1 ⟨rfl, hB1⟩; have kk := hidden hB1))
            all_goals
              have hBL := hidden (hBA.out.drew.trans (kk.out.mono hBA.out.drew.size))
              clear kk hBA hless b0 b1 b2 b3 d1 d2 d3 d4 c1 c2 c3 c4 hX hnx
              go_wp2
              go_roundw
              case rel => exact ⟨m + 1 + 1, by omega, by go_num, hG, hBL⟩
              case measure => simp [intOf]; omega
          | false =>
            clear hnext hf
            go_wp2_with fail
            go_region_with (first | (go_at_call 10; refine (hless _).mono ?_; rintro e w1 ⟨rfl, hB1⟩; have kk := hidden hB1))
            all_goals
              have hBL := hidden (hBA.out.drew.trans (kk.out.mono hBA.out.drew.size))
              clear kk hBA hless b0 b1 b2 b3 d1 d2 d3 d4 c1 c2 c3 c4 hX hnx
              go_wp2
              go_ret
              exact ⟨⟨_, rfl, fun h => nomatch h⟩, hBL.out⟩
      · generalize ps.getD k Lk.none = p at *
        obtain ⟨pa, pb, pc, pn⟩ := p
        simp only [Lk.fit] at hfit c1 c2 c3 c4
        have hX := hidden (heap_alloc_new wr (.cells #[.int .i64 pa, .int .i64 pb, .int .i64 pc, .int .u64 pn] 28))
        obtain ⟨⟨b0, b1, b2, b3⟩, -⟩ := box4f hX.out
        have hBA : Hid (Below w.heap.size w (wr.alloc (.cells #[.int .i64 pa, .int .i64 pb, .int .i64 pc, .int .u64 pn] 28))) := hnx.out.alloc hnx.out.size _
        clear hnext hg
        have key : (pa < 0) ∨ (¬ pa < 0 ∧ 9999 < pa) ∨ (¬ pa < 0 ∧ ¬ 9999 < pa ∧ pb < 0) ∨ (¬ pa < 0 ∧ ¬ 9999 < pa ∧ ¬ pb < 0 ∧ 9999 < pb) ∨ (¬ pa < 0 ∧ ¬ 9999 < pa ∧ ¬ pb < 0 ∧ ¬ 9999 < pb ∧ pc < 0) ∨
            (¬ pa < 0 ∧ ¬ 9999 < pa ∧ ¬ pb < 0 ∧ ¬ 9999 < pb ∧ ¬ pc < 0 ∧ pn < 1) ∨ (¬ pa < 0 ∧ ¬ 9999 < pa ∧ ¬ pb < 0 ∧ ¬ 9999 < pb ∧ ¬ pc < 0 ∧ ¬ pn < 1 ∧ 4611686018427387904 < pn) := by omega
        clear hfit
        rcases key with n1 | ⟨n1, n2⟩ | ⟨n1, n2, n3⟩ | ⟨n1, n2, n3, n4⟩ | ⟨n1, n2, n3, n4, n5⟩ | ⟨n1, n2, n3, n4, n5, n6⟩ | ⟨n1, n2, n3, n4, n5, n6, n7⟩
        all_goals
          go_wp2
          go_ret
          exact ⟨⟨_, rfl, fun h => nomatch h⟩, hBA.out⟩
    · obtain rfl : k = ps.length := by omega
      go_wp2
      go_ret
      exact ⟨⟨_, rfl, fun _ => hg.out⟩, hnx.out⟩
end Go.Proofs.Ytnecfgmbfkocnad
