/-
  A NODE THAT IS CHECKED: the reference's, by contract.
-/
import Derived.Test.YtnmjhbnadfjapaaGOwnC
namespace Go.Proofs.Ytnmjhbnadfjapaa
open Go.ChangeShapes Go.WideShapes Go.ChangeAt Go.RowKit

theorem beqL_comm (a b : List UInt8) : (a == b) = (b == a) := BEq.comm
set_option maxHeartbeats 6400000 in
set_option maxRecDepth 100000 in
theorem rnode_c (l : ByteArray) (ps : List Pp) (pa : Option Addr) (pn pc : Nat) (w : World) (hp : SlR propR w (.slice pa pn pc) ps) (hs : Nd.sm ⟨l, ps⟩) :
    Calls Try.prog 43 #[.agg #[.string l, .slice pa pn pc]] w fun e w' => e = .returned (.int .i64 (nodeE ⟨l, ps⟩)) ∧ Below w.heap.size w w' := by
  obtain ⟨pa', pc', heq, hcap, -, -, hrow⟩ := hp
  simp only [Value.slice.injEq] at heq
  obtain ⟨rfl, rfl, rfl⟩ := heq
  obtain ⟨hs1, hs2, hs3⟩ := hs
  simp only at hs1 hs2 hs3
  replace hs3 := hidden hs3
  have hnm := fun x => rname_c l x hs1
  have hX := hidden (heap_alloc_new w (.cells #[.string l, .slice pa ps.length pc] 44))
  have hB0 : Hid (Below w.heap.size w (w.alloc (.cells #[.string l, .slice pa ps.length pc] 44))) := (Below.refl _ _).alloc (Nat.le_refl _) _
  obtain ⟨⟨b0, b1⟩, -⟩ := box2f hX.out
  replace hrow := hidden hrow
  cases hl : nameB l with
  | false =>
    have hE := hidden (nodeE_name (ps := ps) hl)
    rw [show decide (nameS l) = false from hl] at hnm
    replace hl := hidden hl
    go_enter Try.func43, Try.ntmps43
    go_wp2_with fail
    refine (hnm _).mono ?_
    rintro e z ⟨rfl, rfl⟩
    clear hnm
    go_wp2
    go_ret
    exact ⟨by rw [hE.out]; first | done | rfl, hB0.out⟩
  | true =>
    rw [show decide (nameS l) = true from hl] at hnm
    replace hl := hidden hl
    go_enter Try.func43, Try.ntmps43
    go_wp2_with fail
    refine (hnm _).mono ?_
    rintro e z ⟨rfl, rfl⟩
    clear hnm b0 b1
    go_wp2_with fail
    go_loopw [3, 4] (fun t i x => ∃ j : Nat, j ≤ ps.length ∧ i = .int .i64 j ∧ t = .bool (dupTo ps j) ∧ Hid (∀ j', j' < j → badP (ps.getD j' Pp.none) = false) ∧ Hid (Below w.heap.size w x) ∧ Hid (x.heap[w.heap.size]? = some (.cells #[.string l, .slice pa ps.length pc] 44))) (fun _ i _ => ps.length - (intOf i).toNat)
    case atStart => exact ⟨0, Nat.zero_le _, rfl, rfl, fun j' h => by omega, hB0, hX⟩
    case round =>
      clear hX hB0
      obtain ⟨j, hj, rfl, rfl, hb, hB, hX⟩ := hrel
      obtain ⟨⟨b0, b1⟩, -⟩ := box2f hX.out
      by_cases hlt : j < ps.length
      · obtain ⟨b5, o5, rfl, hb5, e0, e1, e2, e3⟩ := prop_at hrow.out hlt
        have hq0 : Hid (∀ m, sameP ps j m = ((ps.getD j Pp.none).s.toList == (ps.getD m Pp.none).s.toList)) := fun m => rfl
        have hany := hidden fun h => nodeE_bad (ps := ps) hl.out (any_bad hlt h)
        have hok : Hid (badP (ps.getD j Pp.none) = false → ∀ j', j' < j + 1 → badP (ps.getD j' Pp.none) = false) := fun h j' hj' => by
          rcases Nat.lt_or_ge j' j with h2 | h2
          · exact hb.out j' h2
          · obtain rfl : j' = j := by omega
            exact h
        have hsm : Hid ((ps.getD j Pp.none).sm) := hs3.out _ (getD_memG hlt)
        have hds := hidden (dup_succ ps j)
        generalize ps.getD j Pp.none = q at *
        obtain ⟨qs, qk, qn, qt⟩ := q
        simp only at e0 e1 e2 e3
        have f0 := (hB.out.cell (p := ⟨b5, o5 + j * 4, none⟩) (by exact hb5)).trans e0
        have f1 := (hB.out.cell (p := ⟨b5, o5 + j * 4 + 1, none⟩) (by exact hb5)).trans e1
        have f2 := (hB.out.cell (p := ⟨b5, o5 + j * 4 + 2, none⟩) (by exact hb5)).trans e2
        have f3 := (hB.out.cell (p := ⟨b5, o5 + j * 4 + 3, none⟩) (by exact hb5)).trans e3
        have hi1 : (j : Int) < (ps.length : Int) := by omega
        have hPB := hidden (heap_alloc_new wr (.cells #[.string qs, .int .i64 qk, .int .i64 qn, .string qt] 83))
        have hXA := hidden ((heap_alloc_old wr (.cells #[.string qs, .int .i64 qk, .int .i64 qn, .string qt] 83) (Array.getElem?_eq_some_iff.1 hX.out).1).trans hX.out)
        have hBA : Hid (Below w.heap.size w (wr.alloc (.cells #[.string qs, .int .i64 qk, .int .i64 qn, .string qt] 83))) := hB.out.alloc hB.out.size _
        obtain ⟨⟨p0, p1, p2, p3⟩, -⟩ := box4f hPB.out
        have hnm := fun x => rname_c qs x hsm.out.1
        have hgd := fun x => rgood_c qk qn qt x hsm.out.2
        clear e0 e1 e2 e3 hb hX hB
        cases hq : decide (nameS qs) with
        | false =>
          have hE := hidden (hany.out (by show (!nameB qs || _) = true; rw [show nameB qs = false from hq]; rfl))
          rw [hq] at hnm
          replace hq := hidden hq
          clear hany hok hgd
          go_wp2_with fail
          refine (hnm _).mono ?_
          rintro e z ⟨rfl, rfl⟩
          clear hnm
          go_wp2
          go_ret
          exact ⟨by rw [hE.out]; first | done | rfl, hBA.out⟩
        | true =>
          rw [hq] at hnm
          cases hg : goodV qk qn qt with
          | false =>
            have hE := hidden (hany.out (by show (!nameB qs || (!goodV qk qn qt || _)) = true; rw [hg]; simp))
            rw [hg] at hgd
            replace hq := hidden hq
            replace hg := hidden hg
            clear hany hok
            go_wp2_with fail
            refine (hnm _).mono ?_
            rintro e z ⟨rfl, rfl⟩
            clear hnm
            go_wp2_with fail
            refine (hgd _).mono ?_
            rintro e w5 ⟨rfl, hB5⟩
            have hBL : Hid (Below w.heap.size w w5) := hBA.out.trans (hB5.mono hBA.out.size)
            clear hgd hB5 p0 p1 p2 p3
            go_wp2
            go_ret
            exact ⟨by rw [hE.out]; first | done | rfl, hBL.out⟩
          | true =>
            rw [hg] at hgd
            by_cases hk0 : qk = 0
            · have hE := hidden (hany.out (by show (!nameB qs || (!goodV qk qn qt || decide (qk = 0))) = true; rw [decide_eq_true hk0]; simp))
              have hk2 : (qk == 0) = true := by simp [hk0]
              replace hk0 := hidden hk0
              replace hq := hidden hq
              replace hg := hidden hg
              clear hany hok
              go_wp2_with fail
              refine (hnm _).mono ?_
              rintro e z ⟨rfl, rfl⟩
              clear hnm
              go_wp2_with fail
              refine (hgd _).mono ?_
              rintro e w5 ⟨rfl, hB5⟩
              have hBL : Hid (Below w.heap.size w w5) := hBA.out.trans (hB5.mono hBA.out.size)
              have hP5 := hidden (box_below hPB.out hB5)
              clear hgd hB5 p0 p1 p2 p3
              obtain ⟨⟨p0, p1, p2, p3⟩, -⟩ := box4f hP5.out
              go_wp2
              go_ret
              exact ⟨by rw [hE.out]; first | done | rfl, hBL.out⟩
            · have hok2 := hidden (hok.out (by show (!nameB qs || (!goodV qk qn qt || decide (qk = 0))) = false; rw [show nameB qs = true from hq, hg, decide_eq_false hk0]; rfl))
              have hk2 : (qk == 0) = false := by simp [hk0]
              replace hk0 := hidden hk0
              replace hq := hidden hq
              replace hg := hidden hg
              clear hany hok
              go_wp2_with fail
              refine (hnm _).mono ?_
              rintro e z ⟨rfl, rfl⟩
              clear hnm
              go_wp2_with fail
              refine (hgd _).mono ?_
              rintro e w5 ⟨rfl, hB5⟩
              have hBL : Hid (Below w.heap.size w w5) := hBA.out.trans (hB5.mono hBA.out.size)
              have hP5 := hidden (box_below hPB.out hB5)
              have hX5 := hidden (box_below hXA.out hB5)
              clear hgd hB5 p0 p1 p2 p3 hBA hXA hPB f0 f1 f2 f3 b0 b1
              obtain ⟨⟨p0, p1, p2, p3⟩, -⟩ := box4f hP5.out
              go_wp2_with fail
              clear p0 p1 p2 p3
              go_loopw [3, 6] (fun t i x => ∃ m : Nat, m ≤ j ∧ i = .int .i64 m ∧ t = .bool (dupTo ps j || (List.range m).any fun m' => sameP ps j m') ∧ Hid (Below w.heap.size w x) ∧ Hid (x.heap[w.heap.size]? = some (.cells #[.string l, .slice (some ⟨b5, o5, none⟩) ps.length pc] 44)) ∧ Hid (x.heap[wr.heap.size]? = some (.cells #[.string qs, .int .i64 qk, .int .i64 qn, .string qt] 83))) (fun _ i _ => j - (intOf i).toNat)
              case atStart => exact ⟨0, Nat.zero_le _, rfl, by simp, hBL, hX5, hP5⟩
              case round =>
                clear hP5 hX5 hBL
                obtain ⟨m, hm, rfl, rfl, hB, hX, hP⟩ := hrel
                by_cases hlt2 : m < j
                · obtain ⟨b6, o6, hbe, hb6, e0, -, -, -⟩ := prop_at hrow.out (show m < ps.length by omega)
                  simp only [Option.some.injEq, Addr.mk.injEq] at hbe
                  obtain ⟨rfl, rfl, -⟩ := hbe
                  have hsE := hidden (hq0.out m)
                  have hrs := hidden (any_range_succ (fun m' => sameP ps j m') m)
                  generalize ps.getD m Pp.none = o at *
                  obtain ⟨os, ok, on, ot⟩ := o
                  simp only at e0
                  have f0 := (hB.out.cell (p := ⟨b5, o5 + m * 4, none⟩) (by exact hb5)).trans e0
                  have hi4 : (m : Int) < (j : Int) := by omega
                  have hi5 : (m : Int) < (ps.length : Int) := by omega
                  obtain ⟨⟨b0, b1⟩, -⟩ := box2f hX.out
                  obtain ⟨⟨p0, p1, p2, p3⟩, -⟩ := box4f hP.out
                  clear e0
                  have hor : Hid (∀ v, sameP ps j m = v → (dupTo ps j || (List.range (m + 1)).any fun m' => sameP ps j m') = ((dupTo ps j || (List.range m).any fun m' => sameP ps j m') || v)) := fun v hv => by
                    rw [hrs.out, hv, Bool.or_assoc]
                  generalize hT : (dupTo ps j || (List.range m).any fun m' => sameP ps j m') = T at *
                  replace hT := hidden hT
                  cases T with
                  | true =>
                    have hfin := hidden (hor.out _ rfl)
                    go_wp2_with fail
                    go_quiet (fail)
                    go_wp2
                    go_roundw
                    case rel => exact ⟨m + 1, by omega, by go_num, by rw [hfin.out]; simp, below_drewN hB.out _, hX.out, hP.out⟩
                    case measure => simp [intOf]; omega
                  | false =>
                    cases hsv : sameP ps j m with
                    | true =>
                      have g1 : (os.toList == qs.toList) = true := by
                        have := hsE.out.symm.trans hsv
                        simp only at this
                        exact (beqL_comm _ _).trans this
                      have hfin := hidden (hor.out _ hsv)
                      replace hsv := hidden hsv
                      go_wp2_with fail
                      go_quiet (fail)
                      go_wp2
                      go_roundw
                      case rel => exact ⟨m + 1, by omega, by go_num, by rw [hfin.out]; simp, below_drewN hB.out _, hX.out, hP.out⟩
                      case measure => simp [intOf]; omega
                    | false =>
                      have g1 : (os.toList == qs.toList) = false := by
                        have := hsE.out.symm.trans hsv
                        simp only at this
                        exact (beqL_comm _ _).trans this
                      have hfin := hidden (hor.out _ hsv)
                      replace hsv := hidden hsv
                      go_wp2_with fail
                      go_quiet (fail)
                      go_wp2
                      go_roundw
                      case rel => exact ⟨m + 1, by omega, by go_num, by rw [hfin.out]; simp, below_drewN hB.out _, hX.out, hP.out⟩
                      case measure => simp [intOf]; omega
                · obtain rfl : m = j := by omega
                  have hi4 : ¬ (m : Int) < (m : Int) := by omega
                  clear hP
                  go_wp2
                  go_roundw
                  case rel => exact ⟨m + 1, by omega, by go_num, by rw [hds.out], hok2, hB, hX⟩
                  case measure => simp [intOf]; omega
      · obtain rfl : j = ps.length := by omega
        have hnb := hidden (none_bad hb.out)
        clear hb hlt
        by_cases h8 : 8 < ps.length
        · have hE := hidden (nodeE_long hl.out hnb.out h8)
          have h8' : (8 : Int) < (ps.length : Int) := by omega
          go_wp2
          go_ret
          exact ⟨by rw [hE.out]; first | done | rfl, hB.out⟩
        · have h8' : ¬ (8 : Int) < (ps.length : Int) := by omega
          cases hd : dupTo ps ps.length with
          | true =>
            have hE := hidden (nodeE_dup hl.out hnb.out h8 hd)
            replace hd := hidden hd
            go_wp2
            go_ret
            exact ⟨by rw [hE.out]; first | done | rfl, hB.out⟩
          | false =>
            have hE := hidden (nodeE_ok hl.out hnb.out h8 hd)
            replace hd := hidden hd
            go_wp2
            go_ret
            exact ⟨by rw [hE.out]; first | done | rfl, hB.out⟩
end Go.Proofs.Ytnmjhbnadfjapaa
/-
  A GRAPH THAT IS CHECKED: the reference's, by contract; whether it is good.
-/
namespace Go.Proofs.Ytnmjhbnadfjapaa
open Go.ChangeShapes Go.WideShapes Go.ChangeAt Go.RowKit

set_option maxHeartbeats 6400000 in
set_option maxRecDepth 100000 in
theorem rcheck_c (g : Gr) (vs : List NdV) (a : Option Addr) (n c : Nat) (b : Option Addr) (m d : Nat) (w : World) (hg : OwnG g vs a n c b m d w) (hs : g.sm) :
    Calls Try.prog 11 #[.agg #[.slice a n c, .slice b m d]] w fun e w' => e = .returned (.tuple #[.int .i64 (checkG g).1, .int .i64 (checkG g).2]) ∧ Below w.heap.size w w' := by
  obtain ⟨rfl, rfl⟩ := hg.len
  obtain ⟨s1, s2, s3, s4⟩ := hs
  replace hg := hidden hg
  replace s2 := hidden s2
  replace s4 := hidden s4
  have hX := hidden (heap_alloc_new w (.cells #[.slice a g.ns.length c, .slice b g.es.length d] 25))
  have hB0 : Hid (Below w.heap.size w (w.alloc (.cells #[.slice a g.ns.length c, .slice b g.es.length d] 25))) := (Below.refl _ _).alloc (Nat.le_refl _) _
  obtain ⟨⟨b0, b1⟩, -⟩ := box2f hX.out
  go_enter Try.func11, Try.ntmps11
  go_wp2_with fail
  clear b0 b1
  go_loopw [5] (fun i x => ∃ k : Nat, k ≤ g.ns.length ∧ i = .int .i64 k ∧ Hid (∀ j, j < k → nodeE (g.ns.getD j Nd.none) = 0) ∧ Hid (Below w.heap.size w x) ∧ Hid (x.heap[w.heap.size]? = some (.cells #[.slice a g.ns.length c, .slice b g.es.length d] 25))) (fun i _ => g.ns.length - (intOf i).toNat)
  case atStart => exact ⟨0, Nat.zero_le _, rfl, fun j h => by omega, hB0, hX⟩
  case round =>
    clear hX hB0
    obtain ⟨k, hk, rfl, ht, hB, hX⟩ := hrel
    obtain ⟨⟨b0, b1⟩, -⟩ := box2f hX.out
    by_cases hlt : k < g.ns.length
    · have hgx := hg.out.calm hB.out
      obtain ⟨b5, o5, pa, pn, pc, rfl, hb5, c0, c1, hps⟩ := hgx.node hlt
      have hno := hidden (checkG_node k hlt ht.out)
      have hnx := hidden (all_to (f := nodeE) (d := Nd.none) ht.out)
      have hsm : Hid (g.ns.getD k Nd.none).sm := s2.out _ (getD_memG hlt)
      clear hgx
      generalize g.ns.getD k Nd.none = nd at *
      obtain ⟨nl, nps⟩ := nd
      simp only at c0 hps
      have hcA := rnode_c nl nps pa pn pc wr hps hsm.out
      have hi1 : (k : Int) < (g.ns.length : Int) := by omega
      generalize nodeE ⟨nl, nps⟩ = E at *
      clear hps hsm
      go_wp2_with fail
      refine hcA.mono ?_
      rintro e w5 ⟨rfl, hB5⟩
      have hBL : Hid (Below w.heap.size w w5) := hB.out.trans (hB5.mono hB.out.size)
      have hX5 := hidden (box_below hX.out hB5)
      clear hcA hB5 hB hX c0 c1 b0 b1
      by_cases hE : E = 0
      · have hnx2 := hidden (hnx.out hE)
        have g1 : (E != 0) = false := by simp [hE]
        replace hE := hidden hE
        clear hno hnx
        go_wp2
        go_roundw
        case rel => exact ⟨k + 1, by omega, by go_num, hnx2, hBL, hX5⟩
        case measure => simp [intOf]; omega
      · have hno2 := hidden (hno.out hE)
        have g1 : (E != 0) = true := by simp [hE]
        have e1 := hidden (congrArg Prod.fst hno2.out)
        have e2 := hidden (congrArg Prod.snd hno2.out)
        replace hE := hidden hE
        clear hno hnx
        go_wp2
        go_ret2
        exact ⟨by rw [e1.out, e2.out]; first | done | rfl, hBL.out⟩
    · obtain rfl : k = g.ns.length := by omega
      have hi1 : ¬ (g.ns.length : Int) < (g.ns.length : Int) := by omega
      go_wp2_with fail
      clear b0 b1
      go_loopw [7] (fun i x => ∃ k : Nat, k ≤ g.es.length ∧ i = .int .i64 k ∧ Hid (∀ j, j < k → edgeE g.ns.length (g.es.getD j Eg.none) = 0) ∧ Hid (Below w.heap.size w x) ∧ Hid (x.heap[w.heap.size]? = some (.cells #[.slice a g.ns.length c, .slice b g.es.length d] 25))) (fun i _ => g.es.length - (intOf i).toNat)
      case atStart => exact ⟨0, Nat.zero_le _, rfl, fun j h => by omega, hB, hX⟩
      case round =>
        clear hX hB
        obtain ⟨k, hk, rfl, ht2, hB, hX⟩ := hrel
        obtain ⟨⟨b0, b1⟩, -⟩ := box2f hX.out
        by_cases hlt : k < g.es.length
        · obtain ⟨b5, o5, rfl, hb5, e0, e1, e2, e3⟩ := edge_at (hg.out.calm hB.out).edge hlt
          have hno := hidden (checkG_edge ht.out k hlt ht2.out)
          have hnx := hidden (all_to (f := edgeE g.ns.length) (d := Eg.none) ht2.out)
          have hsm : Hid ((g.es.getD k Eg.none).l.size ≤ 1000) := s4.out _ (getD_memG hlt)
          generalize g.es.getD k Eg.none = q at *
          obtain ⟨qf, qt, ql, qw⟩ := q
          simp only at e0 e1 e2 e3
          have hi2 : (k : Int) < (g.es.length : Int) := by omega
          have hnm := fun x => rname_c ql x hsm.out
          have hXA := hidden ((heap_alloc_old wr (.cells #[.int .i64 qf, .int .i64 qt, .string ql, .int .i64 qw] 85) (Array.getElem?_eq_some_iff.1 hX.out).1).trans hX.out)
          have hBA : Hid (Below w.heap.size w (wr.alloc (.cells #[.int .i64 qf, .int .i64 qt, .string ql, .int .i64 qw] 85))) := hB.out.alloc hB.out.size _
          obtain ⟨⟨p0, p1, p2, p3⟩, -⟩ := box4f (heap_alloc_new wr (.cells #[.int .i64 qf, .int .i64 qt, .string ql, .int .i64 qw] 85))
          clear hsm hB hX
          cases hl : nameB ql with
          | false =>
            have hE := edgeE_name (n := g.ns.length) (f := qf) (t := qt) (w := qw) hl
            have hno2 := hidden (hno.out (by rw [hE]; decide))
            have e1 := hidden (congrArg Prod.fst hno2.out)
            have e2' := hidden ((congrArg Prod.snd hno2.out).trans hE)
            rw [show decide (nameS ql) = false from hl] at hnm
            replace hl := hidden hl
            clear hno hnx hE hno2
            go_wp2_with fail
            refine (hnm _).mono ?_
            rintro e z ⟨rfl, rfl⟩
            go_wp2
            go_ret2
            exact ⟨by rw [e1.out, e2'.out]; first | done | rfl, hBA.out⟩
          | true =>
            rw [show decide (nameS ql) = true from hl] at hnm
            replace hl := hidden hl
            by_cases hx : qf < 0 ∨ (g.ns.length : Int) ≤ qf ∨ qt < 0 ∨ (g.ns.length : Int) ≤ qt ∨ qw < 0 ∨ 1000000 < qw
            · have hE := edgeE_arg hl.out hx
              have hno2 := hidden (hno.out (by rw [hE]; decide))
              have e1 := hidden (congrArg Prod.fst hno2.out)
              have e2' := hidden ((congrArg Prod.snd hno2.out).trans hE)
              replace hx := hidden hx
              clear hno hnx hE hno2
              go_wp2_with fail
              refine (hnm _).mono ?_
              rintro e z ⟨rfl, rfl⟩
              go_wp2
              all_goals
                first
                  | (go_ret2
                     exact ⟨by rw [e1.out, e2'.out]; first | done | rfl, hBA.out⟩)
                  | (exfalso; have h9 := hx.out; omega)
            · have hE := edgeE_ok hl.out hx
              have hnx2 := hidden (hnx.out hE)
              have x1 : ¬ qf < 0 := fun h => hx (by omega)
              have x2 : ¬ (g.ns.length : Int) ≤ qf := fun h => hx (by omega)
              have x3 : ¬ qt < 0 := fun h => hx (by omega)
              have x4 : ¬ (g.ns.length : Int) ≤ qt := fun h => hx (by omega)
              have x5 : ¬ qw < 0 := fun h => hx (by omega)
              have x6 : ¬ 1000000 < qw := fun h => hx (by omega)
              clear hx hE hno hnx
              go_wp2_with fail
              refine (hnm _).mono ?_
              rintro e z ⟨rfl, rfl⟩
              go_wp2
              go_roundw
              case rel => exact ⟨k + 1, by omega, by go_num, hnx2, hBA, hXA⟩
              case measure => simp [intOf]; omega
        · obtain rfl : k = g.es.length := by omega
          have hok := hidden (checkG_ok ht.out ht2.out)
          have e1 := hidden (congrArg Prod.fst hok.out)
          have e2 := hidden (congrArg Prod.snd hok.out)
          have hi2 : ¬ (g.es.length : Int) < (g.es.length : Int) := by omega
          clear ht ht2
          go_wp2
          go_ret2
          exact ⟨by rw [e1.out, e2.out]; first | done | rfl, hB.out⟩
end Go.Proofs.Ytnmjhbnadfjapaa
