/-
  TWO AUTOMATA HELD AGAINST EACH OTHER: the reference's, by contract.
-/
import Derived.Test.YtfdbedeidcaonabDoorDSame3
import Derived.Test.YtfdbedeidcaonabDoorSame
namespace Go.Proofs.YtfdbedeidcaonabDoor
open Go.ChangeShapes Go.WideShapes Go.ChangeAt Go.RowKit

theorem twoD (w : World) (a b : Array Value) (t : TypeId) :
    ((w.alloc (.cells a t)).alloc (.cells b t)).heap[w.heap.size]? = some (.cells a t) ∧ ((w.alloc (.cells a t)).alloc (.cells b t)).heap[w.heap.size + 1]? = some (.cells b t) ∧ Below w.heap.size w ((w.alloc (.cells a t)).alloc (.cells b t)) := by
  refine ⟨?_, ?_, ((Below.refl _ _).alloc (Nat.le_refl _) _).alloc (by show _ ≤ (w.heap.push _).size; simp) _⟩
  · show ((w.heap.push _).push _)[_]? = _
    simp [Array.getElem?_push]
  · show ((w.heap.push _).push _)[_]? = _
    rw [Array.getElem?_push, if_pos (by simp)]
/-- The two boxes, at hand. -/
structure Bx (v1 v2 : Array Value) (w x : World) : Prop where
  below : Below w.heap.size w x
  b1 : x.heap[w.heap.size]? = some (.cells v1 26)
  b2 : x.heap[w.heap.size + 1]? = some (.cells v2 26)
theorem Bx.step {v1 v2 : Array Value} {w x z : World} (h : Bx v1 v2 w x) (hB : Below x.heap.size x z) : Bx v1 v2 w z :=
  ⟨h.below.trans (hB.mono h.below.size), (hB.block _ (Array.getElem?_eq_some_iff.1 h.b1).1).trans h.b1, (hB.block _ (Array.getElem?_eq_some_iff.1 h.b2).1).trans h.b2⟩
set_option maxHeartbeats 6400000 in
set_option maxRecDepth 100000 in
theorem rdsame_c (s1 n1 a1 s2 n2 a2 : Value) (x y : Df) (w : World) (h1 : HoldsD w s1 n1 a1 x) (h2 : HoldsD w s2 n2 a2 y) (hx : x.small) (hy : y.small) :
    Calls Tryd.prog 7 #[.agg #[s1, n1, a1], .agg #[s2, n2, a2]] w fun e w' => e = .returned (.bool (dEq x y)) ∧ Below w.heap.size w w' := by
  obtain ⟨x1, x2, x3, x4⟩ := hx
  obtain ⟨y1, y2, y3, y4⟩ := hy
  obtain ⟨p1, p2, p3⟩ := h1
  obtain ⟨q1, q2, q3⟩ := h2
  obtain ⟨sa, sc, rfl, hsa⟩ := p1
  obtain ⟨na, nc, rfl⟩ := p2.slice
  obtain ⟨ba, bc, rfl, hba⟩ := p3
  obtain ⟨sa2, sc2, rfl, hsa2⟩ := q1
  obtain ⟨na2, nc2, rfl⟩ := q2.slice
  obtain ⟨ba2, bc2, rfl, hba2⟩ := q3
  obtain ⟨t1, t2, t3⟩ := twoD w #[.slice sa x.ss.length sc, .slice na x.ns.length nc, .slice ba x.ac.length bc] #[.slice sa2 y.ss.length sc2, .slice na2 y.ns.length nc2, .slice ba2 y.ac.length bc2] 26
  have hB0 := hidden t3
  have hX0 : Hid (Bx #[.slice sa x.ss.length sc, .slice na x.ns.length nc, .slice ba x.ac.length bc] #[.slice sa2 y.ss.length sc2, .slice na2 y.ns.length nc2, .slice ba2 y.ac.length bc2] w _) := ⟨t3, t1, t2⟩
  obtain ⟨⟨e0, e1, e2⟩, -⟩ := box3s t1
  obtain ⟨⟨g0, g1, g2⟩, -⟩ := box3s t2
  clear t1 t2 t3
  replace hsa := hidden hsa
  replace hsa2 := hidden hsa2
  replace hba := hidden hba
  replace hba2 := hidden hba2
  replace p2 := hidden p2
  replace q2 := hidden q2
  replace x4 := hidden x4
  replace y4 := hidden y4
  by_cases l1 : x.ss.length = y.ss.length
  · by_cases l2 : x.ns.length = y.ns.length
    · by_cases l3 : x.ac.length = y.ac.length
      · have m1 : ((x.ss.length : Int) != (y.ss.length : Int)) = false := by simp [l1]
        have m2 : ((x.ns.length : Int) != (y.ns.length : Int)) = false := by simp [l2]
        have m3 : ((x.ac.length : Int) != (y.ac.length : Int)) = false := by simp [l3]
        replace l1 := hidden l1
        replace l2 := hidden l2
        replace l3 := hidden l3
        go_enter Tryd.func7, Tryd.ntmps7
        go_wp2
        clear m1 m2 m3 e0 e1 e2 g0 g1 g2
        go_loopw [5] (fun i wr => ∃ k : Nat, k ≤ x.ss.length ∧ i = .int .i64 k ∧ Hid (∀ j, j < k → symEq (x.ss.getD j Sy.none) (y.ss.getD j Sy.none) = true) ∧ Hid (Bx #[.slice sa x.ss.length sc, .slice na x.ns.length nc, .slice ba x.ac.length bc] #[.slice sa2 y.ss.length sc2, .slice na2 y.ns.length nc2, .slice ba2 y.ac.length bc2] w wr))
          (fun i _ => x.ss.length - (intOf i).toNat)
        case atStart => exact ⟨0, Nat.zero_le _, rfl, fun j hj => by omega, hX0⟩
        case round =>
          clear hX0 hB0
          obtain ⟨k, hk, rfl, ht, hX⟩ := hrel
          obtain ⟨⟨e0, e1, e2⟩, -⟩ := box3s hX.out.b1
          obtain ⟨⟨g0, g1, g2⟩, -⟩ := box3s hX.out.b2
          by_cases hlt : k < x.ss.length
          · have hlt2 : k < y.ss.length := by have := l1.out; omega
            obtain ⟨b1, o1, rfl, hb1, c0, c1⟩ := sym_at (hsa.out.below hX.out.below) hlt
            obtain ⟨b2, o2, rfl, hb2, d0, d1⟩ := sym_at (hsa2.out.below hX.out.below) hlt2
            have hno := hidden fun h => eqAll_no (f := symEq) (d := Sy.none) (xs := x.ss) (ys := y.ss) (k := k) hlt h
            have hok : Hid (symEq (x.ss.getD k Sy.none) (y.ss.getD k Sy.none) = true → ∀ j, j < k + 1 → symEq (x.ss.getD j Sy.none) (y.ss.getD j Sy.none) = true) := fun h j hj => by
              rcases Nat.lt_or_ge j k with h2 | h2
              · exact ht.out j h2
              · obtain rfl : j = k := by omega
                exact h
            generalize x.ss.getD k Sy.none = u at *
            generalize y.ss.getD k Sy.none = v at *
            obtain ⟨s, p⟩ := u
            obtain ⟨t, q⟩ := v
            simp only at c0 c1 d0 d1
            have hj1 : (k : Int) < (x.ss.length : Int) := by omega
            have hj2 : (k : Int) < (y.ss.length : Int) := by omega
            have hXd := fun n => hX.out.step (below_drewN (Below.refl _ _) n)
            replace hXd := hidden hXd
            by_cases e9 : s.toList = t.toList ∧ p = q
            · obtain ⟨e9, rfl⟩ := e9
              obtain rfl := ba_ext e9
              have hok2 := hidden (hok.out (symEq_self _))
              clear hok hno e9
              go_wp2
              go_quiet (fail)
              go_wp2
              go_roundw
              case rel => exact ⟨k + 1, by omega, by go_num, hok2, by first | exact hXd.out _ | exact hX.out.step (Below.refl _ _).drew⟩
              case measure => simp [intOf]; omega
            · have hno2 : Hid (eqAll symEq Sy.none x.ss y.ss = false) := hno.out (decide_eq_false e9)
              have hfin : Hid (dEq x y = false) := by show _ = _; unfold dEq; rw [hno2.out]; rfl
              clear hok hno
              by_cases e8 : s.toList = t.toList
              · have e3 : ¬ p = q := fun h => e9 ⟨e8, h⟩
                obtain rfl := ba_ext e8
                have g3 : (p == q) = false := by simpa using e3
                clear e9 e8
                go_wp2
                go_quiet (fail)
                go_wp2
                go_ret
                exact ⟨by rw [hfin.out]; first | done | rfl, by first | exact (hXd.out _).below | exact hX.out.below.drew⟩
              · have g3 : (s.toList == t.toList) = false := by simpa using e8
                clear e9
                go_wp2
                go_quiet (fail)
                go_wp2
                go_ret
                exact ⟨by rw [hfin.out]; first | done | rfl, by first | exact (hXd.out _).below | exact hX.out.below.drew⟩
          · have hall := hidden (eqAll_all (f := symEq) (d := Sy.none) l1.out fun j hj => ht.out j (by omega))
            clear ht
            go_wp2
            clear e0 e1 e2 g0 g1 g2 hlt
            go_loopw [6] (fun i wr => ∃ k : Nat, k ≤ x.ac.length ∧ i = .int .i64 k ∧ Hid (∀ j, j < k → (x.ac.getD j false == y.ac.getD j false) = true) ∧ Hid (Bx #[.slice sa x.ss.length sc, .slice na x.ns.length nc, .slice ba x.ac.length bc] #[.slice sa2 y.ss.length sc2, .slice na2 y.ns.length nc2, .slice ba2 y.ac.length bc2] w wr))
              (fun i _ => x.ac.length - (intOf i).toNat)
            case atStart => exact ⟨0, Nat.zero_le _, rfl, fun j hj => by omega, hX⟩
            case round =>
              clear hX
              obtain ⟨k, hk, rfl, ht, hX⟩ := hrel
              obtain ⟨⟨e0, e1, e2⟩, -⟩ := box3s hX.out.b1
              obtain ⟨⟨g0, g1, g2⟩, -⟩ := box3s hX.out.b2
              by_cases hlt : k < x.ac.length
              · have hlt2 : k < y.ac.length := by have := l3.out; omega
                obtain ⟨b1, o1, rfl, hb1, c0⟩ := bool_at (hba.out.below hX.out.below) hlt
                obtain ⟨b2, o2, rfl, hb2, d0⟩ := bool_at (hba2.out.below hX.out.below) hlt2
                have hno := hidden fun h => eqAll_no (f := (· == ·)) (d := false) (xs := x.ac) (ys := y.ac) (k := k) hlt h
                have hok : Hid ((x.ac.getD k false == y.ac.getD k false) = true → ∀ j, j < k + 1 → (x.ac.getD j false == y.ac.getD j false) = true) := fun h j hj => by
                  rcases Nat.lt_or_ge j k with h2 | h2
                  · exact ht.out j h2
                  · obtain rfl : j = k := by omega
                    exact h
                generalize x.ac.getD k false = u at *
                generalize y.ac.getD k false = v at *
                have hj1 : (k : Int) < (x.ac.length : Int) := by omega
                have hj2 : (k : Int) < (y.ac.length : Int) := by omega
                have hXd := hidden fun n => hX.out.step (below_drewN (Below.refl _ _) n)
                by_cases e9 : u = v
                · subst e9
                  have hok2 := hidden (hok.out (by simp))
                  clear hok hno
                  go_wp2
                  go_quiet (fail)
                  go_wp2
                  go_roundw
                  case rel => exact ⟨k + 1, by omega, by go_num, hok2, by first | exact hXd.out _ | exact hX.out.step (Below.refl _ _).drew⟩
                  case measure => simp [intOf]; omega
                · have hno2 : Hid (eqAll (· == ·) false x.ac y.ac = false) := hno.out (by simpa using e9)
                  have hfin : Hid (dEq x y = false) := by show _ = _; unfold dEq; rw [hno2.out]; simp
                  have g3 : (u == v) = false := by simpa using e9
                  clear hok hno
                  go_wp2
                  go_quiet (fail)
                  go_wp2
                  go_ret
                  exact ⟨by rw [hfin.out]; first | done | rfl, by first | exact (hXd.out _).below | exact hX.out.below.drew⟩
              · have hall2 := hidden (eqAll_all (f := (· == ·)) (d := false) l3.out fun j hj => ht.out j (by omega))
                clear ht
                go_wp2
                clear e0 e1 e2 g0 g1 g2 hlt
                go_loopw [7] (fun i wr => ∃ k : Nat, k ≤ x.ns.length ∧ i = .int .i64 k ∧ Hid (∀ j, j < k → rowEq (x.ns.getD j []) (y.ns.getD j []) = true) ∧ Hid (Bx #[.slice sa x.ss.length sc, .slice na x.ns.length nc, .slice ba x.ac.length bc] #[.slice sa2 y.ss.length sc2, .slice na2 y.ns.length nc2, .slice ba2 y.ac.length bc2] w wr))
                  (fun i _ => x.ns.length - (intOf i).toNat)
                case atStart => exact ⟨0, Nat.zero_le _, rfl, fun j hj => by omega, hX⟩
                case round =>
                  clear hX
                  obtain ⟨k, hk, rfl, ht, hX⟩ := hrel
                  obtain ⟨⟨e0, e1, e2⟩, -⟩ := box3s hX.out.b1
                  obtain ⟨⟨g0, g1, g2⟩, -⟩ := box3s hX.out.b2
                  by_cases hlt : k < x.ns.length
                  · have hlt2 : k < y.ns.length := by have := l2.out; omega
                    obtain ⟨b1, o1, pa, pn, pc, rfl, hb1, c0, hh1⟩ := nrow_at (p2.out.calm (.of_below hX.out.below)) hlt
                    obtain ⟨b2, o2, qa, qn, qc, rfl, hb2, d0, hh2⟩ := nrow_at (q2.out.calm (.of_below hX.out.below)) hlt2
                    have hno := hidden fun h => eqAll_no (f := rowEq) (d := []) (xs := x.ns) (ys := y.ns) (k := k) hlt h
                    have hok : Hid (rowEq (x.ns.getD k []) (y.ns.getD k []) = true → ∀ j, j < k + 1 → rowEq (x.ns.getD j []) (y.ns.getD j []) = true) := fun h j hj => by
                      rcases Nat.lt_or_ge j k with h2 | h2
                      · exact ht.out j h2
                      · obtain rfl : j = k := by omega
                        exact h
                    have hcall := same_c (.slice pa pn pc) (.slice qa qn qc) (x.ns.getD k []) (y.ns.getD k []) wr.drew (hh1.below (Below.refl _ _).drew).ints (hh2.below (Below.refl _ _).drew).ints (by have := x4.out k hlt; omega) (by have := y4.out k hlt2; omega)
                    generalize hc : decide (x.ns.getD k [] = y.ns.getD k []) = c at *
                    have hc2 : Hid (rowEq (x.ns.getD k []) (y.ns.getD k []) = c) := hc
                    clear hc hh1 hh2
                    have hj1 : (k : Int) < (x.ns.length : Int) := by omega
                    have hj2 : (k : Int) < (y.ns.length : Int) := by omega
                    have hXd := hidden (hX.out.step (Below.refl _ _).drew)
                    cases c with
                    | true =>
                      have hok2 := hidden (hok.out hc2.out)
                      clear hok hno
                      go_wp2_with fail
                      go_region_with (first | (go_at_call 19; refine hcall.mono ?_; rintro e w1 ⟨rfl, hB1⟩; have kk := hidden hB1))
                      all_goals
                        have hX2 := hidden (hXd.out.step kk.out)
                        clear kk hcall c0 d0 hX hXd e0 e1 e2 g0 g1 g2
                        go_wp2
                        go_roundw
                        case rel => exact ⟨k + 1, by omega, by go_num, hok2, hX2⟩
                        case measure => simp [intOf]; omega
                    | false =>
                      have hno2 : Hid (eqAll rowEq [] x.ns y.ns = false) := hno.out hc2.out
                      have hfin : Hid (dEq x y = false) := by show _ = _; unfold dEq; rw [hno2.out]; simp
                      clear hok hno
                      go_wp2_with fail
                      go_region_with (first | (go_at_call 19; refine hcall.mono ?_; rintro e w1 ⟨rfl, hB1⟩; have kk := hidden hB1))
                      all_goals
                        have hX2 := hidden (hXd.out.step kk.out)
                        clear kk hcall c0 d0 hX hXd e0 e1 e2 g0 g1 g2
                        go_wp2
                        go_ret
                        exact ⟨by rw [hfin.out]; first | done | rfl, hX2.out.below⟩
                  · have hall3 := hidden (eqAll_all (f := rowEq) (d := []) l2.out fun j hj => ht.out j (by omega))
                    have hfin : Hid (dEq x y = true) := by show _ = _; unfold dEq; rw [hall.out, hall2.out, hall3.out]; rfl
                    clear ht
                    go_wp2
                    go_ret
                    exact ⟨by rw [hfin.out]; first | done | rfl, hX.out.below⟩
      · have hfin : Hid (dEq x y = false) := by show _ = _; unfold dEq; rw [eqAll_len (f := (· == ·)) (d := false) l3]; simp
        have m1 : ((x.ss.length : Int) != (y.ss.length : Int)) = false := by simp [l1]
        have m2 : ((x.ns.length : Int) != (y.ns.length : Int)) = false := by simp [l2]
        have m3 : ((x.ac.length : Int) != (y.ac.length : Int)) = true := by simp; omega
        replace l1 := hidden l1
        replace l2 := hidden l2
        replace l3 := hidden l3
        go_enter Tryd.func7, Tryd.ntmps7
        go_wp2
        go_ret
        exact ⟨by rw [hfin.out]; first | done | rfl, hB0.out⟩
    · have hfin : Hid (dEq x y = false) := by show _ = _; unfold dEq; rw [eqAll_len (f := rowEq) (d := []) l2]; simp
      have m1 : ((x.ss.length : Int) != (y.ss.length : Int)) = false := by simp [l1]
      have m2 : ((x.ns.length : Int) != (y.ns.length : Int)) = true := by simp; omega
      replace l1 := hidden l1
      replace l2 := hidden l2
      go_enter Tryd.func7, Tryd.ntmps7
      go_wp2
      go_ret
      exact ⟨by rw [hfin.out]; first | done | rfl, hB0.out⟩
  · have hfin : Hid (dEq x y = false) := by show _ = _; unfold dEq; rw [eqAll_len (f := symEq) (d := Sy.none) l1]; simp
    have m1 : ((x.ss.length : Int) != (y.ss.length : Int)) = true := by simp; omega
    replace l1 := hidden l1
    go_enter Tryd.func7, Tryd.ntmps7
    go_wp2
    go_ret
    exact ⟨by rw [hfin.out]; first | done | rfl, hB0.out⟩
end Go.Proofs.YtfdbedeidcaonabDoor
