/-
  LINKS IN MEMORY OF THEIR OWN, by contract: which ones.
-/
import Derived.Test.YtnecfgmbfkocnadRec
import Derived.WalkSmall
import Derived.Laws.Rows
import Derived.Lib.SmallJoins
namespace Go.Proofs.Ytnecfgmbfkocnad
open Go.ChangeShapes Go.WideShapes Go.ChangeAt Go.RowKit

structure Lk where
  a : Int
  b : Int
  c : Int
  n : Int
def Lk.none : Lk := ⟨0, 0, 0, 0⟩
def linkR : Rec Lk := ⟨fun p => [.int .i64 p.a, .int .i64 p.b, .int .i64 p.c, .int .u64 p.n], 4, by decide, fun _ => rfl, fun p u hu => by simp at hu; rcases hu with rfl | rfl | rfl | rfl <;> rfl, Lk.none⟩
def Lk.wf (p : Lk) : Prop := (Lit.int .i64 p.a).wf = true ∧ (Lit.int .i64 p.b).wf = true ∧ (Lit.int .i64 p.c).wf = true ∧ (Lit.int .u64 p.n).wf = true
theorem open_links {H : Type} {enc : TypeId × Value → H} {P : Program} {w : World} {sp : Nat → Bool} {held : Bool} {t e : TypeId} {f0 f1 f2 f3 : Field} {v : Value} {d : DataW H} {qs : List MemPlace} {r : Reach} {b0 : Nat}
    (ht : P.underlying t = some (.slice e)) (he : P.underlying e = some (.struct #[f0, f1, f2, f3])) (h0 : P.underlying f0.type = some (.int .i64)) (h1 : P.underlying f1.type = some (.int .i64)) (h2 : P.underlying f2.type = some (.int .i64)) (h3 : P.underlying f3.type = some (.int .u64)) (hc : P.cellsOf e = 4)
    (o0 : f0.offset = 0) (o1 : f1.offset = 1) (o2 : f2.offset = 2) (o3 : f3.offset = 3) (c0 : P.cellsOf f0.type = 1) (c1 : P.cellsOf f1.type = 1) (c2 : P.cellsOf f2.type = 1) (c3 : P.cellsOf f3.type = 1)
    (hval : Value.okWide P w r b0 t v) (h : DataW.Trod enc P w 0 sp held t v d qs) : ∃ ps : List Lk, ps.length ≤ maxLen ∧ HoldsR linkR w v ps ∧ ∀ p ∈ ps, p.wf :=
  open_recs (R := linkR) ht hc (fun fuel cs x hl hx => by
    match cs, hl with
    | [u0, u1, u2, u3], _ =>
      obtain ⟨_, _, _, _, _, _, _, g0, g1, g2, g3⟩ := Go.Joins.trod_struct4 he hx
      rw [o0, c0] at g0
      rw [o1, c1] at g1
      rw [o2, c2] at g2
      rw [o3, c3] at g3
      obtain ⟨a, e0, _, w0⟩ := DataW.trod_int h0 g0
      obtain ⟨b, e1, _, w1⟩ := DataW.trod_int h1 g1
      obtain ⟨c, e2, _, w2⟩ := DataW.trod_int h2 g2
      obtain ⟨n, e3, _, w3⟩ := DataW.trod_int h3 g3
      have e0 : u0 = .int .i64 a := by simpa using e0
      have e1 : u1 = .int .i64 b := by simpa using e1
      have e2 : u2 = .int .i64 c := by simpa using e2
      have e3 : u3 = .int .u64 n := by simpa using e3
      exact ⟨⟨a, b, c, n⟩, by rw [e0, e1, e2, e3]; rfl, w0, w1, w2, w3⟩) hval h
theorem infoL : (Try.prog.info? 28).map (fun i => (i.zero, i.size, i.bytes)) = some (some (.agg #[.int .i64 0, .int .i64 0, .int .i64 0, .int .u64 0]), 4, 32) := by kernel_rfl
theorem link_at {w : World} {a : Option Addr} {ps : List Lk} (h : RowAt w a (linkR.flat ps)) {k : Nat} (hk : k < ps.length) :
    ∃ b off, a = some ⟨b, off, none⟩ ∧ b < w.heap.size ∧ w.cell? ⟨b, off + k * 4, none⟩ = some (.int .i64 (ps.getD k Lk.none).a) ∧ w.cell? ⟨b, off + k * 4 + 1, none⟩ = some (.int .i64 (ps.getD k Lk.none).b) ∧
      w.cell? ⟨b, off + k * 4 + 2, none⟩ = some (.int .i64 (ps.getD k Lk.none).c) ∧ w.cell? ⟨b, off + k * 4 + 3, none⟩ = some (.int .u64 (ps.getD k Lk.none).n) := by
  obtain ⟨b, off, h1, h2, h3⟩ := rec_at h hk
  exact ⟨b, off, h1, h2, h3 0 _ rfl, h3 1 _ rfl, h3 2 _ rfl, h3 3 _ rfl⟩
/-- A link, its cost cut. -/
def Lk.low (p : Lk) : Lk := if 1000000000 < p.c then ⟨p.a, p.b, 1000000000, p.n⟩ else p
theorem cells_new2 (w : World) (o : Obj) (xs : List Value) (t : TypeId) : ∀ j x, xs[j]? = some x → ((w.alloc o).alloc (.cells xs.toArray t)).cell? ((⟨w.heap.size + 1, 0, none⟩ : Addr).add j) = some x := fun j x hj => by
  have h := cells_new (w.alloc o) xs t j x hj
  rwa [show (w.alloc o).heap.size = w.heap.size + 1 by show (w.heap.push o).size = _; simp] at h
theorem box4f {x : World} {b : Nat} {c0 c1 c2 c3 : Value} {t : TypeId} (h : x.heap[b]? = some (.cells #[c0, c1, c2, c3] t)) :
    (x.cell? ⟨b, 0, none⟩ = some c0 ∧ x.cell? ⟨b, 1, none⟩ = some c1 ∧ x.cell? ⟨b, 2, none⟩ = some c2 ∧ x.cell? ⟨b, 3, none⟩ = some c3) ∧ x.frozen? ⟨b, 0, none⟩ = false ∧ x.frozen? ⟨b, 1, none⟩ = false ∧ x.frozen? ⟨b, 2, none⟩ = false ∧ x.frozen? ⟨b, 3, none⟩ = false := by
  simp [World.cell?, World.frozen?, h]
set_option maxRecDepth 100000 in
set_option maxHeartbeats 1600000 in
theorem lfew_c (v : Value) (ps : List Lk) (w : World) (hv : HoldsR linkR w v ps) (_hz : ps.length ≤ 9223372036854775807) :
    Calls Try.prog 4 #[v] w fun e w' => ∃ a n c, e = .returned (.slice a n c) ∧ SlR linkR w' (.slice a n c) ((ps.take 25).map Lk.low) ∧ Below w.heap.size w w' := by
  obtain ⟨a, cap, rfl, hrow⟩ := hv
  obtain ⟨i0, hi, hz0, hz1, hz2⟩ := info_parts infoL
  replace hrow := hidden hrow
  go_enter Try.func4, Try.ntmps4
  go_wp2
  go_loopw [3, 4] (fun u i wr => ∃ k : Nat, k ≤ ps.length ∧ k ≤ 25 ∧ i = .int .i64 k ∧ Hid (wr.ownsRow w.heap.size 28 4 u k (linkR.flat ((ps.take k).map Lk.low))) ∧ u.oneCell' = true ∧ Hid (Below w.heap.size w wr))
    (fun _ i _ => ps.length - (intOf i).toNat)
  case atStart => exact ⟨0, Nat.zero_le _, Nat.zero_le _, rfl, World.ownsRow_made w #[] 0 (Nat.le_refl _) (by unfold maxLen; omega) rfl, rfl, (Below.refl _ _).alloc (Nat.le_refl _) _⟩
  case round =>
    obtain ⟨k, hk, hkm, rfl, hown, hone, hnx⟩ := hrel
    by_cases hlt : k < ps.length ∧ k < 25
    · obtain ⟨hk1, hk2⟩ := hlt
      obtain ⟨b, off, rfl, hb, hc1, hc2, hc3, hc4⟩ := link_at hrow.out hk1
      have hx1 := (hnx.out.cell (p := ⟨b, off + k * 4, none⟩) (by exact hb)).trans hc1
      have hx2 := (hnx.out.cell (p := ⟨b, off + k * 4 + 1, none⟩) (by exact hb)).trans hc2
      have hx3 := (hnx.out.cell (p := ⟨b, off + k * 4 + 2, none⟩) (by exact hb)).trans hc3
      have hx4 := (hnx.out.cell (p := ⟨b, off + k * 4 + 3, none⟩) (by exact hb)).trans hc4
      have hsz := hidden hnx.out.size
      have htk := hidden (take_snocR ps Lk.none k hk1)
      clear hc1 hc2 hc3 hc4
      generalize ps.getD k Lk.none = p at *
      obtain ⟨pa, pb, pc, pn⟩ := p
      simp only at hx1 hx2 hx3 hx4
      have hX := hidden (heap_alloc_new wr (.cells #[.int .i64 pa, .int .i64 pb, .int .i64 pc, .int .u64 pn] 28))
      obtain ⟨⟨b0, b1, b2, b3⟩, f0, f1, f2, f3⟩ := box4f hX.out
      by_cases hcost : 1000000000 < pc
      all_goals
        have hX2 := hidden (heap_alloc_new wr (.cells #[.int .i64 pa, .int .i64 pb, .int .i64 (if 1000000000 < pc then 1000000000 else pc), .int .u64 pn] 28))
        have hcw := hidden (show linkR.flat ((ps.take (k + 1)).map Lk.low) = linkR.flat ((ps.take k).map Lk.low) ++ [.int .i64 pa, .int .i64 pb, .int .i64 (if 1000000000 < pc then 1000000000 else pc), .int .u64 pn] by
          rw [htk.out, List.map_append, Rec.flat_app]
          simp only [List.map_cons, List.map_nil, Rec.flat_one, Lk.low]
          split <;> rfl)
        simp only [hcost, if_true, if_false] at hX2 hcw
        obtain ⟨⟨e0, e1, e2, e3⟩, -⟩ := box4f hX2.out
        clear htk
      · go_wp2_with (at_builtin; go_loud (refine wpList_append_own _ rfl _ _ 22 rfl w.heap.size 28 i0 (.agg #[.int .i64 0, .int .i64 0, .int .i64 0, .int .u64 0]) 4 32 Try.underlying22 hi hz0 hz1 hz2 rfl (by decide) _ _ _ rfl ((hown.out.alloc _).alloc _) ⟨wr.heap.size + 1, 0, none⟩ 1 1 [.int .i64 pa, .int .i64 pb, .int .i64 1000000000, .int .u64 pn] rfl rfl (cells_new2 wr _ [_, _, _, _] _) (by intro u hu; simp at hu; rcases hu with rfl | rfl | rfl | rfl <;> rfl) (by unfold maxLen; omega) (by omega) (by have := hsz.out; simp at *; omega) ?_); intro v' w1 hown' hgrow _)
        have hB3 : Hid (Below w.heap.size w w1) := ((hnx.out.alloc hsz.out _).alloc (by have := hsz.out; show _ ≤ (wr.heap.push _).size; simp; omega) _).grown hgrow (by have := hsz.out; simp; omega) (fun j hj => by have := (hown.out.lt j hj).1; omega)
        have hown3 : Hid (w1.ownsRow w.heap.size 28 4 v' (k + 1) (linkR.flat ((ps.take (k + 1)).map Lk.low))) := by
          show World.ownsRow _ _ _ _ _ _ _
          rw [hcw.out]
          exact hown'
        have hone' : v'.oneCell' = true := by
          rcases hown'.2 with ⟨rfl, _⟩ | ⟨_, _, _, rfl, _⟩ <;> rfl
        clear hgrow hown' hown hX hX2 b0 b1 b2 b3 f0 f1 f2 f3 e0 e1 e2 e3 hsz hcw hx1 hx2 hx3 hx4 hnx
        go_wp2
        go_roundw
        case rel => exact ⟨k + 1, by omega, by omega, by go_num, hown3, hone', hB3⟩
        case measure => simp [intOf]; omega
      · go_wp2_with (at_builtin; go_loud (refine wpList_append_own _ rfl _ _ 22 rfl w.heap.size 28 i0 (.agg #[.int .i64 0, .int .i64 0, .int .i64 0, .int .u64 0]) 4 32 Try.underlying22 hi hz0 hz1 hz2 rfl (by decide) _ _ _ rfl ((hown.out.alloc _).alloc _) ⟨wr.heap.size + 1, 0, none⟩ 1 1 [.int .i64 pa, .int .i64 pb, .int .i64 pc, .int .u64 pn] rfl rfl (cells_new2 wr _ [_, _, _, _] _) (by intro u hu; simp at hu; rcases hu with rfl | rfl | rfl | rfl <;> rfl) (by unfold maxLen; omega) (by omega) (by have := hsz.out; simp at *; omega) ?_); intro v' w1 hown' hgrow _)
        have hB3 : Hid (Below w.heap.size w w1) := ((hnx.out.alloc hsz.out _).alloc (by have := hsz.out; show _ ≤ (wr.heap.push _).size; simp; omega) _).grown hgrow (by have := hsz.out; simp; omega) (fun j hj => by have := (hown.out.lt j hj).1; omega)
        have hown3 : Hid (w1.ownsRow w.heap.size 28 4 v' (k + 1) (linkR.flat ((ps.take (k + 1)).map Lk.low))) := by
          show World.ownsRow _ _ _ _ _ _ _
          rw [hcw.out]
          exact hown'
        have hone' : v'.oneCell' = true := by
          rcases hown'.2 with ⟨rfl, _⟩ | ⟨_, _, _, rfl, _⟩ <;> rfl
        clear hgrow hown' hown hX hX2 b0 b1 b2 b3 f0 f1 f2 f3 e0 e1 e2 e3 hsz hcw hx1 hx2 hx3 hx4 hnx
        go_wp2
        go_roundw
        case rel => exact ⟨k + 1, by omega, by omega, by go_num, hown3, hone', hB3⟩
        case measure => simp [intOf]; omega
    · have hlen : ((ps.take k).map Lk.low).length = k := by rw [List.length_map, List.length_take]; omega
      have hfin : Hid (SlR linkR wr u3 ((ps.take 25).map Lk.low)) := by
        have e : ps.take 25 = ps.take k := by
          by_cases hk1 : k < ps.length
          · rw [show k = 25 by omega]
          · rw [List.take_of_length_le (by omega), List.take_of_length_le (by omega)]
        show SlR _ _ _ _
        rw [e]
        refine slR_of_owns (base := w.heap.size) (e := 28) ?_
        rw [hlen]; exact hown.out
      obtain ⟨a1, n1, c1, rfl⟩ : ∃ a n c, u3 = .slice a n c := by
        obtain ⟨a, c, h, _⟩ := hfin.out
        exact ⟨a, _, c, h⟩
      clear hown hlen
      by_cases hk1 : k < ps.length
      · have hk2 : ¬ k < 25 := fun h => hlt ⟨hk1, h⟩
        clear hlt
        go_wp2
        go_ret
        exact ⟨_, _, _, rfl, hfin.out, hnx.out⟩
      · clear hlt
        go_wp2
        go_ret
        exact ⟨_, _, _, rfl, hfin.out, hnx.out⟩
end Go.Proofs.Ytnecfgmbfkocnad
