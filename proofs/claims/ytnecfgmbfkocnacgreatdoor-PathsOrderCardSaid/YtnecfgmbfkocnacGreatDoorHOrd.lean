/-
  HOPS IN MEMORY OF THEIR OWN, by contract: which ones.
-/
import Derived.Test.YtnecfgmbfkocnacGreatDoorGCmp
import Derived.WalkSmall
namespace Go.Proofs.YtnecfgmbfkocnacGreatDoor
open Go.ChangeShapes Go.WideShapes Go.ChangeAt Go.RowKit

abbrev Hop := Int × Bool
def hopR : Rec Hop := ⟨fun p => [.int .i64 p.1, .bool p.2], 2, by decide, fun _ => rfl, fun p u hu => by simp at hu; rcases hu with rfl | rfl <;> rfl, (0, false)⟩
def Hop.wf (p : Hop) : Prop := (Lit.int .i64 p.1).wf = true
theorem open_hopsR {H : Type} {enc : TypeId × Value → H} {P : Program} {w : World} {sp : Nat → Bool} {held : Bool} {t e : TypeId} {f0 f1 : Field} {v : Value} {d : DataW H} {qs : List MemPlace} {r : Reach} {b0 : Nat}
    (ht : P.underlying t = some (.slice e)) (he : P.underlying e = some (.struct #[f0, f1])) (h0 : P.underlying f0.type = some (.int .i64)) (h1 : P.underlying f1.type = some .bool) (hc : P.cellsOf e = 2)
    (o0 : f0.offset = 0) (o1 : f1.offset = 1) (c0 : P.cellsOf f0.type = 1) (c1 : P.cellsOf f1.type = 1)
    (hval : Value.okWide P w r b0 t v) (h : DataW.Trod enc P w 0 sp held t v d qs) : ∃ ps : List Hop, ps.length ≤ maxLen ∧ HoldsR hopR w v ps ∧ ∀ p ∈ ps, p.wf :=
  open_recs (R := hopR) ht hc (fun fuel cs x hl hx => by
    match cs, hl with
    | [u0, u1], _ =>
      obtain ⟨y0, y1, m, _, _, g0, g1⟩ := trod_struct2 he hx
      rw [o0, c0] at g0
      rw [o1, c1] at g1
      obtain ⟨a, e0, _, w0⟩ := DataW.trod_int h0 g0
      obtain ⟨b, e1, _⟩ := DataW.trod_bool h1 g1
      have e0 : u0 = .int .i64 a := by simpa using e0
      have e1 : u1 = .bool b := by simpa using e1
      exact ⟨(a, b), by rw [e0, e1]; rfl, w0⟩) hval h
theorem infoH : (Tryz.prog.info? 30).map (fun i => (i.zero, i.size, i.bytes)) = some (some (.agg #[.int .i64 0, .bool false]), 2, 16) := by kernel_rfl
theorem hop_at {w : World} {a : Option Addr} {ps : List Hop} (h : RowAt w a (hopR.flat ps)) {k : Nat} (hk : k < ps.length) :
    ∃ b off, a = some ⟨b, off, none⟩ ∧ b < w.heap.size ∧ w.cell? ⟨b, off + k * 2, none⟩ = some (.int .i64 (ps.getD k (0, false)).1) ∧ w.cell? ⟨b, off + k * 2 + 1, none⟩ = some (.bool (ps.getD k (0, false)).2) := by
  obtain ⟨b, off, h1, h2, h3⟩ := rec_at h hk
  exact ⟨b, off, h1, h2, h3 0 _ rfl, h3 1 _ rfl⟩
set_option maxRecDepth 100000 in
set_option maxHeartbeats 800000 in
theorem hfew_c (v : Value) (ps : List Hop) (w : World) (hv : HoldsR hopR w v ps) (_hz : ps.length ≤ 9223372036854775807) :
    Calls Tryz.prog 4 #[v] w fun e w' => ∃ a n c, e = .returned (.slice a n c) ∧ SlR hopR w' (.slice a n c) (ps.take 8) ∧ Below w.heap.size w w' := by
  obtain ⟨a, cap, rfl, hrow⟩ := hv
  obtain ⟨i0, hi, hz0, hz1, hz2⟩ := info_parts infoH
  replace hrow := hidden hrow
  go_enter Tryz.func4, Tryz.ntmps4
  go_wp2
  go_loopw [3, 4] (fun u i wr => ∃ k : Nat, k ≤ ps.length ∧ k ≤ 8 ∧ i = .int .i64 k ∧ Hid (wr.ownsRow w.heap.size 30 2 u k (hopR.flat (ps.take k))) ∧ u.oneCell' = true ∧ Hid (Below w.heap.size w wr))
    (fun _ i _ => ps.length - (intOf i).toNat)
  case atStart => exact ⟨0, Nat.zero_le _, Nat.zero_le _, rfl, World.ownsRow_made w #[] 0 (Nat.le_refl _) (by unfold maxLen; omega) rfl, rfl, (Below.refl _ _).alloc (Nat.le_refl _) _⟩
  case round =>
    obtain ⟨k, hk, hkm, rfl, hown, hone, hnx⟩ := hrel
    by_cases hlt : k < ps.length ∧ k < 8
    · obtain ⟨hk1, hk2⟩ := hlt
      obtain ⟨b, off, rfl, hb, hc1, hc2⟩ := hop_at hrow.out hk1
      have hx1 : wr.cell? ⟨b, off + k * 2, none⟩ = some (.int .i64 (ps.getD k (0, false)).1) := (hnx.out.cell (by exact hb)).trans hc1
      have hx2 : wr.cell? ⟨b, off + k * 2 + 1, none⟩ = some (.bool (ps.getD k (0, false)).2) := (hnx.out.cell (by exact hb)).trans hc2
      have hsz := hnx.out.size
      have htk := hidden (take_snocR ps (0, false) k hk1)
      clear hc1 hc2
      generalize ps.getD k (0, false) = p at *
      obtain ⟨x, y⟩ := p
      simp only at hx1 hx2
      go_wp2_with (at_builtin; refine wpList_append_own _ rfl _ _ 22 rfl w.heap.size 30 i0 (.agg #[.int .i64 0, .bool false]) 2 16 Tryz.underlying22 hi hz0 hz1 hz2 rfl (by decide) _ _ _ rfl (hown.out.alloc _) ⟨wr.heap.size, 0, none⟩ 1 1 [.int .i64 x, .bool y] rfl rfl (cells_new _ [_, _] _) ?c2 ?c3 ?c4 ?c5 ?_)
      case c2 => intro u hu; simp at hu; rcases hu with rfl | rfl <;> rfl
      case c3 => unfold maxLen; omega
      case c4 => omega
      case c5 => simp; omega
      · intro v' w1 hown' hgrow _
        have hB : Hid (Below w.heap.size w w1) := (hnx.out.alloc (by omega) _).grown hgrow (by simp; omega) (fun j hj => by have := (hown.out.lt j hj).1; omega)
        have hown2 : Hid (w1.ownsRow w.heap.size 30 2 v' (k + 1) (hopR.flat (ps.take (k + 1)))) := by
          show World.ownsRow _ _ _ _ _ _ _
          rw [htk.out, Rec.flat_app, Rec.flat_one]
          exact hown'
        clear hgrow hown hx1 hx2 hnx
        have hone' : v'.oneCell' = true := by
          rcases hown'.2 with ⟨rfl, _⟩ | ⟨_, _, _, rfl, _⟩ <;> rfl
        clear hown'
        go_wp2
        go_roundw
        case rel => exact ⟨k + 1, by omega, by omega, by go_num, hown2, hone', hB⟩
        case measure => simp [intOf]; omega
    · have hlen : (ps.take k).length = k := by rw [List.length_take]; omega
      have hfin : Hid (SlR hopR wr u3 (ps.take 8)) := by
        have e : ps.take 8 = ps.take k := by
          by_cases hk1 : k < ps.length
          · rw [show k = 8 by omega]
          · rw [List.take_of_length_le (by omega), List.take_of_length_le (by omega)]
        show SlR _ _ _ _
        rw [e]
        refine slR_of_owns (base := w.heap.size) (e := 30) ?_
        rw [hlen]; exact hown.out
      obtain ⟨a1, n1, c1, rfl⟩ : ∃ a n c, u3 = .slice a n c := by
        obtain ⟨a, c, h, _⟩ := hfin.out
        exact ⟨a, _, c, h⟩
      clear hown hlen
      by_cases hk1 : k < ps.length
      · have hk2 : ¬ k < 8 := fun h => hlt ⟨hk1, h⟩
        clear hlt
        go_wp2
        go_ret
        exact ⟨_, _, _, rfl, hfin.out, hnx.out⟩
      · clear hlt
        go_wp2
        go_ret
        exact ⟨_, _, _, rfl, hfin.out, hnx.out⟩
end Go.Proofs.YtnecfgmbfkocnacGreatDoor
/-
  ROWS OF HOPS HELD AGAINST EACH OTHER: the program's, by contract.
-/
namespace Go.Proofs.YtnecfgmbfkocnacGreatDoor
open Go.ChangeShapes Go.WideShapes Go.ChangeAt Go.RowKit

def cmpI (a b : Int) : Int := if a < b then -1 else if b < a then 1 else 0
theorem nani_c (a : Int) (w : World) : Calls Tryz.prog 22 #[.int .i64 a] w fun e w' => e = .returned (.bool false) ∧ w' = w := by
  go_enter Tryz.func22, Tryz.ntmps22
  go_wp2
  go_ret
  exact ⟨rfl, rfl⟩
theorem cmpi_c (a b : Int) (w : World) : Calls Tryz.prog 12 #[.int .i64 a, .int .i64 b] w fun e w' => e = .returned (.int .i64 (cmpI a b)) ∧ w' = w := by
  have h := fun a w => nani_c a w
  have key : (a < b ∧ Hid (cmpI a b = -1)) ∨ (¬ a < b ∧ b < a ∧ Hid (cmpI a b = 1)) ∨ (¬ a < b ∧ ¬ b < a ∧ Hid (cmpI a b = 0)) := by
    by_cases h1 : a < b
    · exact .inl ⟨h1, by show _ = _; simp [cmpI, h1]⟩
    · by_cases h2 : b < a
      · exact .inr (.inl ⟨h1, h2, by show _ = _; simp [cmpI, h1, h2]⟩)
      · exact .inr (.inr ⟨h1, h2, by show _ = _; simp [cmpI, h1, h2]⟩)
  rcases key with ⟨h1, e⟩ | ⟨h1, h2, e⟩ | ⟨h1, h2, e⟩ <;> rw [e.out] <;> clear e <;>
  · go_enter Tryz.func12, Tryz.ntmps12
    go_wp2_with fail
    refine (h a w).mono ?_
    rintro e w ⟨rfl, rfl⟩
    go_wp2_with fail
    refine (h b _).mono ?_
    rintro e w ⟨rfl, rfl⟩
    go_wp2
    go_ret
    exact ⟨rfl, rfl⟩
/-- Which of two hops stands first. -/
def hcmp (x y : Hop) : Int := if x.1 ≠ y.1 ∨ x.2 = y.2 then cmpI x.1 y.1 else if y.2 then -1 else 1
theorem two_boxesH (w : World) (a b : Array Value) (t u : TypeId) :
    ((w.alloc (.cells a t)).alloc (.cells b u)).heap[w.heap.size]? = some (.cells a t) ∧ ((w.alloc (.cells a t)).alloc (.cells b u)).heap[w.heap.size + 1]? = some (.cells b u) ∧ Below w.heap.size w ((w.alloc (.cells a t)).alloc (.cells b u)) := by
  refine ⟨?_, ?_, ((Below.refl _ _).alloc (Nat.le_refl _) _).alloc (by show _ ≤ (w.heap.push _).size; simp) _⟩
  · show ((w.heap.push _).push _)[_]? = _
    simp [Array.getElem?_push]
  · show ((w.heap.push _).push _)[_]? = _
    rw [Array.getElem?_push, if_pos (by simp)]
theorem box2f {x : World} {b : Nat} {c0 c1 : Value} {t : TypeId} (h : x.heap[b]? = some (.cells #[c0, c1] t)) : (x.cell? ⟨b, 0, none⟩ = some c0 ∧ x.cell? ⟨b, 1, none⟩ = some c1) ∧ x.frozen? ⟨b, 0, none⟩ = false ∧ x.frozen? ⟨b, 1, none⟩ = false := by
  simp [World.cell?, World.frozen?, h]
set_option maxHeartbeats 1600000 in
set_option maxRecDepth 100000 in
theorem hcmp_c (x y : Hop) (w : World) : Calls Tryz.prog 11 #[.agg #[.int .i64 x.1, .bool x.2], .agg #[.int .i64 y.1, .bool y.2]] w fun e w' => e = .returned (.int .i64 (hcmp x y)) ∧ Below w.heap.size w w' := by
  obtain ⟨a, p⟩ := x
  obtain ⟨b, q⟩ := y
  obtain ⟨hA, hA', hB⟩ := two_boxesH w #[.int .i64 a, .bool p] #[.int .i64 b, .bool q] 30 30
  have hB0 : Hid _ := hidden hB
  obtain ⟨⟨b0, b1⟩, -⟩ := box2f hA
  obtain ⟨⟨c0, c1⟩, -⟩ := box2f hA'
  have hc := fun x => cmpi_c a b x
  clear hA hA' hB
  by_cases h1 : a = b
  · subst h1
    cases p <;> cases q
    all_goals simp only [hcmp, ne_eq, not_true_eq_false, false_or, reduceCtorEq, if_true, if_false, Bool.false_eq_true]
    · go_enter Tryz.func11, Tryz.ntmps11
      go_wp2_with fail
      refine (hc _).mono ?_
      rintro e w2 ⟨rfl, rfl⟩
      go_wp2
      go_ret
      exact ⟨rfl, hB0.out⟩
    · go_enter Tryz.func11, Tryz.ntmps11
      go_wp2
      go_ret
      exact ⟨rfl, hB0.out⟩
    · go_enter Tryz.func11, Tryz.ntmps11
      go_wp2
      go_ret
      exact ⟨rfl, hB0.out⟩
    · go_enter Tryz.func11, Tryz.ntmps11
      go_wp2_with fail
      refine (hc _).mono ?_
      rintro e w2 ⟨rfl, rfl⟩
      go_wp2
      go_ret
      exact ⟨rfl, hB0.out⟩
  · have e : hcmp (a, p) (b, q) = cmpI a b := if_pos (.inl h1)
    rw [e]
    clear e
    have g1 : (a != b) = true := bne_iff_ne.2 h1
    replace h1 := hidden h1
    generalize cmpI a b = c at *
    go_enter Tryz.func11, Tryz.ntmps11
    go_wp2_with fail
    refine (hc _).mono ?_
    rintro e w2 ⟨rfl, rfl⟩
    go_wp2
    go_ret
    exact ⟨rfl, hB0.out⟩
set_option maxHeartbeats 1600000 in
set_option maxRecDepth 100000 in
theorem hcf_c (va vb : Value) (xs ys : List Hop) (w : World) (hva : SlR hopR w va xs) (hvb : SlR hopR w vb ys) (hx : xs.length ≤ 1000) (hy : ys.length ≤ 1000) :
    Calls Tryz.prog 10 #[va, vb, .func (.func 11) #[] #[]] w fun e w' => e = .returned (.int .i64 (gcmp hcmp xs ys)) ∧ Below w.heap.size w w' := by
  obtain ⟨a, cap, rfl, -, -, -, hra⟩ := hva
  obtain ⟨b, cap', rfl, -, -, -, hrb⟩ := hvb
  go_enter Tryz.func10, Tryz.ntmps10
  go_wp2
  go_loopw [13] (fun i wr => ∃ k : Nat, k ≤ xs.length ∧ k ≤ ys.length ∧ i = .int .i64 k ∧ Hid (∀ j, j < k → hcmp (xs.getD j (0, false)) (ys.getD j (0, false)) = 0) ∧ Hid (Below w.heap.size w wr))
    (fun i _ => xs.length - (intOf i).toNat)
  case atStart => exact ⟨0, Nat.zero_le _, Nat.zero_le _, rfl, fun j hj => by omega, Below.refl _ _⟩
  case round =>
    obtain ⟨k, hk, hk2, rfl, ht, hnx⟩ := hrel
    by_cases hlt : k < xs.length
    · obtain ⟨b1, o1, rfl, hb1, c0, c1⟩ := hop_at (hra.below hnx.out) hlt
      by_cases hlt2 : k < ys.length
      · obtain ⟨b2, o2, rfl, hb2, d0, d1⟩ := hop_at (hrb.below hnx.out) hlt2
        have hno := hidden fun h => gcmp_ne (f := hcmp) (0, false) k hlt hlt2 ht.out h
        have hok := hidden fun h => all_next (f := hcmp) (d := (0, false)) ht.out h
        generalize xs.getD k (0, false) = x at *
        generalize ys.getD k (0, false) = y at *
        have hcall := fun z => hcmp_c x y z
        obtain ⟨xe, xb⟩ := x
        obtain ⟨ye, yb⟩ := y
        simp only at c0 c1 d0 d1 hcall
        generalize hcmp (xe, xb) (ye, yb) = c at *
        replace hra := hidden hra
        replace hrb := hidden hrb
        have hj1 : (k : Int) < (xs.length : Int) := by omega
        have hj2 : ¬ (ys.length : Int) ≤ (k : Int) := by omega
        have hj3 : (k : Int) < (ys.length : Int) := by omega
        obtain ⟨hA, hA', hBB⟩ := two_boxesH wr #[.int .i64 xe, .bool xb] #[.int .i64 ye, .bool yb] 30 30
        have hB0 := hidden hBB
        obtain ⟨⟨e0, e1⟩, -⟩ := box2f hA
        obtain ⟨⟨g0, g1⟩, -⟩ := box2f hA'
        clear hA hA' hBB
        go_wp2_with fail
        refine (hcall _).mono ?_
        rintro e w1 ⟨rfl, hB1⟩
        have hBL : Hid (Below w.heap.size w w1) := hnx.out.trans ((hB0.out.trans (hB1.mono hB0.out.size)).mono hnx.out.size)
        clear hB1 hcall c0 c1 d0 d1 e0 e1 g0 g1 hB0
        by_cases hc : c = 0
        · have hok2 := hidden (hok.out hc)
          have hc1 : (c != 0) = false := by simp [hc]
          clear hok hno
          replace hc := hidden hc
          go_wp2
          go_roundw
          case rel => exact ⟨k + 1, by omega, by omega, by go_num, hok2, hBL⟩
          case measure => simp [intOf]; omega
        · have hno2 := hidden (hno.out hc)
          have hc1 : (c != 0) = true := by simp [hc]
          clear hok hno
          replace hc := hidden hc
          go_wp2
          go_ret
          exact ⟨by rw [hno2.out]; first | done | rfl, hBL.out⟩
      · obtain rfl : k = ys.length := by omega
        have hr := hidden (gcmp_long (f := hcmp) (0, false) hlt ht.out)
        have hj1 : (ys.length : Int) < (xs.length : Int) := by omega
        clear ht
        generalize xs.getD ys.length (0, false) = x at *
        obtain ⟨xe, xb⟩ := x
        simp only at c0 c1
        have hBA : Hid (Below w.heap.size w (wr.alloc (.cells #[.int .i64 xe, .bool xb] 30))) := hnx.out.alloc hnx.out.size _
        replace hra := hidden hra
        replace hrb := hidden hrb
        go_wp2
        go_ret
        exact ⟨by rw [hr.out]; first | done | rfl, hBA.out⟩
    · obtain rfl : k = xs.length := by omega
      replace hra := hidden hra
      replace hrb := hidden hrb
      by_cases hl : xs.length < ys.length
      · have hr := hidden (gcmp_short (f := hcmp) (0, false) hl ht.out)
        have hj1 : (xs.length : Int) < (ys.length : Int) := by omega
        clear ht
        go_wp2
        go_ret
        exact ⟨by rw [hr.out]; first | done | rfl, hnx.out⟩
      · have hr := hidden (gcmp_eq (f := hcmp) (0, false) (by omega) ht.out)
        have hj1 : ¬ (xs.length : Int) < (ys.length : Int) := by omega
        clear ht
        go_wp2
        go_ret
        exact ⟨by rw [hr.out]; first | done | rfl, hnx.out⟩
theorem hord_c (va vb : Value) (xs ys : List Hop) (w : World) (hva : SlR hopR w va xs) (hvb : SlR hopR w vb ys) (hx : xs.length ≤ 1000) (hy : ys.length ≤ 1000) :
    Calls Tryz.prog 5 #[va, vb] w fun e w' => e = .returned (.int .i64 (gcmp hcmp xs ys)) ∧ Below w.heap.size w w' := by
  have h := hcf_c va vb xs ys w hva hvb hx hy
  obtain ⟨a, cap, rfl, -⟩ := hva
  obtain ⟨b, cap', rfl, -⟩ := hvb
  generalize gcmp hcmp xs ys = c at *
  go_enter Tryz.func5, Tryz.ntmps5
  go_wp2_with fail
  refine h.mono ?_
  rintro e w1 ⟨rfl, hB⟩
  replace hB := hidden hB
  go_wp2
  go_ret
  exact ⟨rfl, hB.out⟩
end Go.Proofs.YtnecfgmbfkocnacGreatDoor
