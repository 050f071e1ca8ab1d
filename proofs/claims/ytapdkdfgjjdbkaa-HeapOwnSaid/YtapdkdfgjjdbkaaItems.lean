/-
  A COPY OF SOME NUMBERS: Few, by its contract.
-/
import Derived.Test.YtapdkdfgjjdbkaaSl
import Derived.ChangeSame
import Derived.Lib.SmallJoins
import Derived.Test.YtapdkdfgjjdbkaaXCodeG
import Derived.Laws.Rows
import Derived.Laws.ResultCell
namespace Go.Proofs.Ytapdkdfgjjdbkaa
open Go.ChangeShapes Go.WideShapes Go.ChangeAt Go.RowKit

theorem infoInt : (Try.prog.info? 3).map (fun i => (i.zero, i.size, i.bytes)) = some (some (.int .i64 0), 1, 8) := by kernel_rfl
theorem take_snoc (zs : List Int) (k : Nat) (hk : k < zs.length) : zs.take (k + 1) = zs.take k ++ [zs.getD k 0] := by
  rw [List.take_add_one, List.getElem?_eq_getElem hk]; simp [List.getD, hk]

set_option maxHeartbeats 800000 in
set_option maxRecDepth 1000000 in
theorem few_c (v : Value) (zs : List Int) (m : Nat) (w : World) (hv : Holds w v (zs.map (Value.int .i64))) (hz : zs.length ≤ 9223372036854775807) (hm : m ≤ 1000) :
    Calls Try.prog 19 #[v, .int .i64 m] w fun e w' =>
      ∃ v', e = .returned v' ∧ w'.ownsRow w.heap.size 3 1 v' (zs.take m).length ((zs.take m).map (Value.int .i64)) ∧ Below w.heap.size w w' := by
  obtain ⟨a, cap, rfl, hrow⟩ := hv
  rw [List.length_map]
  obtain ⟨i0, hi, hz0, hz1, hz2⟩ := info_parts infoInt
  go_enter Try.func19, Try.ntmps19
  go_wp2
  go_loopw [5, 6] (fun u i wr => ∃ k : Nat, k ≤ zs.length ∧ k ≤ m ∧ i = .int .i64 k ∧ wr.ownsRow w.heap.size 3 1 u (zs.take k).length ((zs.take k).map (Value.int .i64)) ∧ Below w.heap.size w wr)
    (fun _ i _ => zs.length - (intOf i).toNat)
  case atStart => exact ⟨0, Nat.zero_le _, Nat.zero_le _, rfl, World.ownsRow_made w #[] 0 (Nat.le_refl _) (by unfold maxLen; omega) rfl, (Below.refl _ _).alloc (Nat.le_refl _) _⟩
  case round =>
    obtain ⟨k, hk, hkm, rfl, hown, hnx⟩ := hrel
    by_cases hlt : k < zs.length ∧ k < m
    · obtain ⟨hk1, hk2⟩ := hlt
      rcases hrow with h0 | ⟨b, off, rfl, hb, hc⟩
      · simp only [List.map_eq_nil_iff] at h0; subst h0; simp at hk1
      have hcx : wr.cell? ⟨b, off + k, none⟩ = some (.int .i64 (zs.getD k 0)) := (hnx.cell (by exact hb)).trans (hc k _ (by simp [hk1]))
      have hsz := hnx.size
      have htk : (zs.take k).length = k := by rw [List.length_take]; omega
      have hts := take_snoc zs k hk1
      clear hc
      generalize zs.getD k 0 = z at *
      go_wp2_with (at_builtin; refine wpList_append_own _ rfl _ _ 22 rfl w.heap.size 3 i0 (.int .i64 0) 1 8 Try.underlying22 hi hz0 hz1 hz2 rfl (by decide) _ _ _ rfl (hown.alloc _) ⟨wr.heap.size, 0, none⟩ 1 1 [.int .i64 z] rfl rfl (cell_one_new _ _ _) ?c2 ?c3 ?c4 ?c5 ?_)
      case c2 => intro u hu; simp at hu; subst hu; rfl
      case c3 => rw [htk]; unfold maxLen; omega
      case c4 => rw [htk]; omega
      case c5 => simp; omega
      · intro v' w1 hown' hgrow _
        have hlt2 : (zs.take (k + 1)).length = k + 1 := by rw [List.length_take]; omega
        have hB : Below w.heap.size w w1 := (hnx.alloc (by omega) _).grown hgrow (by simp; omega) (fun j hj => by have := (hown.lt j hj).1; omega)
        clear hgrow hown hcx hnx
        go_wp2
        go_roundw
        case rel => exact ⟨k + 1, by omega, by omega, by go_num, by rw [hlt2, hts]; simpa [htk] using hown', hB⟩
        case measure => simp [intOf]; omega
    · have e : zs.take m = zs.take k := by
        rcases Nat.lt_or_ge k zs.length with h | h
        · obtain rfl : k = m := by omega
          rfl
        · rw [List.take_of_length_le h, List.take_of_length_le (by omega)]
      by_cases hk1 : k < zs.length
      · have hk2 : ¬ k < m := fun h => hlt ⟨hk1, h⟩
        clear hlt
        go_wp2
        go_ret
        exact ⟨_, rfl, by rw [e]; exact hown, hnx⟩
      · clear hlt
        go_wp2
        go_ret
        exact ⟨_, rfl, by rw [e]; exact hown, hnx⟩
end Go.Proofs.Ytapdkdfgjjdbkaa
/-
  AN ITEM THAT CAME IN: a struct of a number, a row of numbers, and two numbers. No function is named here.
-/
namespace Go.Proofs.Ytapdkdfgjjdbkaa
open Go.ChangeShapes Go.WideShapes Go.ChangeAt Go.RowKit

/-- A slice of numbers in a cell: what it holds. -/
theorem open_rowc {H : Type} {enc : TypeId × Value → H} {P : Program} {w : World} {sp : Nat → Bool} {held : Bool} {t e : TypeId} {k : IntKind} {v : Value} {fuel : Nat} {x : DataW H × List MemPlace}
    (ht : P.underlying t = some (.slice e)) (he : P.underlying e = some (.int k)) (hc : P.cellsOf e = 1) (hf : DataW.trod enc P w 0 sp held fuel t [v] = some x)
    (hsp : ∀ b, sp b = true) : ∃ zs : List Int, Holds w v (zs.map (Value.int k)) ∧ zs.length ≤ maxLen ∧ ∀ z ∈ zs, (Lit.int k z).wf = true := by
  rcases open_ints ht he hc hf with ⟨hcs, _⟩ | ⟨a, len, cap, zs, hcs, _, hl, hm, hz, _, hcell, hwz⟩
  · simp only [List.cons.injEq, and_true] at hcs
    subst hcs
    exact ⟨[], ⟨none, 0, rfl, .inl rfl⟩, by unfold maxLen; simp, fun _ h => by cases h⟩
  · simp only [List.cons.injEq, and_true] at hcs
    subst hcs
    rw [hsp, if_pos rfl] at hz
    have hlen : (zs.take len).length = len := by rw [List.length_take]; omega
    refine ⟨zs.take len, ⟨some a, cap, by rw [List.length_map, hlen], ?_⟩, by omega, fun z hz => hwz z (List.mem_of_mem_take hz)⟩
    by_cases h0 : len = 0
    · left; subst h0; simp
    · right
      obtain ⟨b, off, o⟩ := a
      have h1 := hcell 0 (by omega)
      obtain rfl : o = none := by
        cases o with
        | none => rfl
        | some u => exact absurd h1 (by simp only [Addr.add, World.cell?]; split <;> simp)
      refine ⟨b, off, rfl, ?_, fun j u hj => ?_⟩
      · have h2 : (Addr.add ⟨b, off, none⟩ 0).block = b := by simp [Addr.add]
        simp only [World.cell?] at h1
        rw [h2] at h1
        cases hb : w.heap[b]? with
        | none => rw [hb] at h1; cases h1
        | some o => exact (Array.getElem?_eq_some_iff.1 hb).1
      · simp only [List.getElem?_map, Option.map_eq_some_iff] at hj
        obtain ⟨z, hz', rfl⟩ := hj
        rw [List.getElem?_take] at hz'
        split at hz'
        · have := hcell j (by have := (List.getElem?_eq_some_iff.1 hz').1; omega)
          have e : Addr.add ⟨b, off, none⟩ j = ⟨b, off + j, none⟩ := by
            by_cases hj : j = 0
            · subst hj; simp [Addr.add]
            · simp [Addr.add, hj]
          rw [e] at this
          simpa [List.getD, hz'] using this
        · cases hz'
/-- An item's number, its row's numbers, and two more. -/
structure It where
  c : Int
  l : List Int
  p : Int
  r : Int
def It.wf (x : It) : Prop := (Lit.int .i64 x.c).wf = true ∧ x.l.length ≤ maxLen ∧ (∀ z ∈ x.l, (Lit.int .i64 z).wf = true) ∧ (Lit.int .i64 x.p).wf = true ∧ (Lit.int .i64 x.r).wf = true
theorem open_item_cells {H : Type} {enc : TypeId × Value → H} {P : Program} {w : World} {sp : Nat → Bool} {held : Bool} {t e : TypeId} {f0 f1 f2 f3 : Field} {u0 u1 u2 u3 : Value} {fuel : Nat} {x : DataW H × List MemPlace}
    (he : P.underlying t = some (.struct #[f0, f1, f2, f3])) (h0 : P.underlying f0.type = some (.int .i64)) (h1 : P.underlying f1.type = some (.slice e)) (hel : P.underlying e = some (.int .i64)) (hec : P.cellsOf e = 1) (h2 : P.underlying f2.type = some (.int .i64)) (h3 : P.underlying f3.type = some (.int .i64))
    (o0 : f0.offset = 0) (o1 : f1.offset = 1) (o2 : f2.offset = 2) (o3 : f3.offset = 3) (c0 : P.cellsOf f0.type = 1) (c1 : P.cellsOf f1.type = 1) (c2 : P.cellsOf f2.type = 1) (c3 : P.cellsOf f3.type = 1)
    (hsp : ∀ b, sp b = true) (hf : DataW.trod enc P w 0 sp held fuel t [u0, u1, u2, u3] = some x) :
    ∃ y : It, u0 = .int .i64 y.c ∧ u2 = .int .i64 y.p ∧ u3 = .int .i64 y.r ∧ Holds w u1 (y.l.map (Value.int .i64)) ∧ y.wf := by
  obtain ⟨y0, y1, y2, y3, n, _, _, g0, g1, g2, g3⟩ := Go.Joins.trod_struct4 he hf
  rw [o0, c0] at g0
  rw [o1, c1] at g1
  rw [o2, c2] at g2
  rw [o3, c3] at g3
  obtain ⟨a, e0, _, w0⟩ := DataW.trod_int h0 g0
  obtain ⟨b, e2, _, w2⟩ := DataW.trod_int h2 g2
  obtain ⟨c, e3, _, w3⟩ := DataW.trod_int h3 g3
  obtain ⟨zs, hh, hm, hw⟩ := open_rowc h1 hel hec (show DataW.trod enc P w 0 sp held n f1.type [u1] = some y1 by simpa using g1) hsp
  exact ⟨⟨a, zs, b, c⟩, by simpa using e0, by simpa using e2, by simpa using e3, hh, w0, hm, hw, w2, w3⟩
theorem open_item {H : Type} {enc : TypeId × Value → H} {P : Program} {w : World} {sp : Nat → Bool} {held : Bool} {t e : TypeId} {f0 f1 f2 f3 : Field} {v : Value} {d : DataW H} {qs : List MemPlace} {r : Reach} {b0 : Nat}
    (he : P.underlying t = some (.struct #[f0, f1, f2, f3])) (h0 : P.underlying f0.type = some (.int .i64)) (h1 : P.underlying f1.type = some (.slice e)) (hel : P.underlying e = some (.int .i64)) (hec : P.cellsOf e = 1) (h2 : P.underlying f2.type = some (.int .i64)) (h3 : P.underlying f3.type = some (.int .i64))
    (hagg : (match P.underlying t with | some (.struct _) | some (.array _ _) => true | _ => false) = true) (hn : P.cellsOf t = 4)
    (o0 : f0.offset = 0) (o1 : f1.offset = 1) (o2 : f2.offset = 2) (o3 : f3.offset = 3) (c0 : P.cellsOf f0.type = 1) (c1 : P.cellsOf f1.type = 1) (c2 : P.cellsOf f2.type = 1) (c3 : P.cellsOf f3.type = 1)
    (hsp : ∀ b, sp b = true) (hval : Value.okWide P w r b0 t v) (h : DataW.Trod enc P w 0 sp held t v d qs) :
    ∃ (y : It) (nv : Value), v = .agg #[.int .i64 y.c, nv, .int .i64 y.p, .int .i64 y.r] ∧ Holds w nv (y.l.map (Value.int .i64)) ∧ y.wf := by
  obtain ⟨l, hl, rfl, _⟩ := GoX.arg_agg hagg hn hval
  obtain ⟨fuel, hf⟩ := h
  match l, hl with
  | [u0, u1, u2, u3], _ =>
    obtain ⟨y, rfl, rfl, rfl, hh, hw⟩ := open_item_cells he h0 h1 hel hec h2 h3 o0 o1 o2 o3 c0 c1 c2 c3 hsp (show DataW.trod enc P w 0 sp held fuel t [u0, u1, u2, u3] = some _ from hf)
    exact ⟨y, u1, rfl, hh, hw⟩
end Go.Proofs.Ytapdkdfgjjdbkaa
/-
  AN ITEM IN MEMORY OF ITS OWN, somewhat cut: by contract.
-/
namespace Go.Proofs.Ytapdkdfgjjdbkaa
open Go.ChangeShapes Go.WideShapes Go.ChangeAt Go.RowKit

theorem hiddenI {p : Prop} (h : p) : Hid p := h
theorem heap_setI {x : World} {b : Nat} {cs : Array Value} {t : TypeId} (h : x.heap[b]? = some (.cells cs t)) (j : Nat) (v : Value) : (x.setCell ⟨b, j, none⟩ v).heap[b]? = some (.cells (cs.setIfInBounds j v) t) := by
  simp [World.setCell, Array.getElem?_modify, h]
theorem heap_oI {x : World} {p : Addr} {v : Value} {b : Nat} (h : p.block ≠ b) : (x.setCell p v).heap[b]? = x.heap[b]? := by
  simp [World.setCell, Array.getElem?_modify, h]
theorem heap_set4 {x : World} {b : Nat} {a0 a1 a2 a3 : Value} {t : TypeId} (h : x.heap[b]? = some (.cells #[a0, a1, a2, a3] t)) (c0 c1 c2 c3 : Value) :
    ((((x.setCell ⟨b, 0, none⟩ c0).setCell ⟨b, 1, none⟩ c1).setCell ⟨b, 2, none⟩ c2).setCell ⟨b, 3, none⟩ c3).heap[b]? = some (.cells #[c0, c1, c2, c3] t) := by
  have h1 := heap_setI h 0 c0
  have h2 := heap_setI h1 1 c1
  have h3 := heap_setI h2 2 c2
  have h4 := heap_setI h3 3 c3
  simpa using h4
theorem box4 {x : World} {b : Nat} {c0 c1 c2 c3 : Value} {t : TypeId} (h : x.heap[b]? = some (.cells #[c0, c1, c2, c3] t)) :
    (x.cell? ⟨b, 0, none⟩ = some c0 ∧ x.cell? ⟨b, 1, none⟩ = some c1 ∧ x.cell? ⟨b, 2, none⟩ = some c2 ∧ x.cell? ⟨b, 3, none⟩ = some c3) ∧ x.frozen? ⟨b, 0, none⟩ = false ∧ x.frozen? ⟨b, 1, none⟩ = false ∧ x.frozen? ⟨b, 2, none⟩ = false ∧ x.frozen? ⟨b, 3, none⟩ = false := by
  refine ⟨⟨?_, ?_, ?_, ?_⟩, ?_, ?_, ?_, ?_⟩ <;> simp [World.cell?, World.frozen?, h]
theorem heap2_new (w : World) (a b : Obj) : ((w.alloc a).alloc b).heap[w.heap.size + 1]? = some b := by
  rw [show w.heap.size + 1 = (w.alloc a).heap.size by show _ = (w.heap.push a).size; simp]
  exact heap_alloc_new _ _
theorem heap2_old (w : World) (a b : Obj) : ((w.alloc a).alloc b).heap[w.heap.size]? = some a :=
  (heap_alloc_old _ _ (by show _ < (w.heap.push a).size; simp)).trans (heap_alloc_new _ _)
/-- An item as a value. -/
def itV (y : It) (nv : Value) : Value := .agg #[.int .i64 y.c, nv, .int .i64 y.p, .int .i64 y.r]
/-- An item, its row cut. -/
def It.few (y : It) (m : Nat) : It := ⟨y.c, y.l.take m, y.p, y.r⟩
set_option maxHeartbeats 1600000 in
theorem itemO_c (y : It) (nv : Value) (w : World) (hv : Holds w nv (y.l.map (Value.int .i64))) (hz : y.l.length ≤ 9223372036854775807) : Calls Try.prog 6 #[itV y nv] w fun e w' =>
    ∃ nv', e = .returned (itV (y.few 5) nv') ∧ w'.ownsRow 0 3 1 nv' (y.few 5).l.length ((y.few 5).l.map (Value.int .i64)) ∧ Below w.heap.size w w' := by
  obtain ⟨c, l, p, r⟩ := y
  simp only [itV, It.few] at hv hz ⊢
  have hB2 : Below w.heap.size w ((w.alloc (.cells #[.int .i64 c, nv, .int .i64 p, .int .i64 r] 24)).alloc (.cells #[.int .i64 0, .slice none 0 0, .int .i64 0, .int .i64 0] 24)) :=
    ((Below.refl _ _).alloc (Nat.le_refl _) _).alloc (by show _ ≤ (w.heap.push _).size; simp) _
  have hfew := few_c nv l 5 _ (hv.below hB2) hz (by omega)
  have hX0 := hiddenI (heap2_old w (.cells #[.int .i64 c, nv, .int .i64 p, .int .i64 r] 24) (.cells #[.int .i64 0, .slice none 0 0, .int .i64 0, .int .i64 0] 24))
  have hR0 := hiddenI (heap2_new w (.cells #[.int .i64 c, nv, .int .i64 p, .int .i64 r] 24) (.cells #[.int .i64 0, .slice none 0 0, .int .i64 0, .int .i64 0] 24))
  have hs2 : ((w.alloc (.cells #[.int .i64 c, nv, .int .i64 p, .int .i64 r] 24)).alloc (.cells #[.int .i64 0, .slice none 0 0, .int .i64 0, .int .i64 0] 24)).heap.size = w.heap.size + 2 := by
    show ((w.heap.push _).push _).size = _; simp
  replace hB2 := hiddenI hB2
  replace hs2 := hiddenI hs2
  clear hv hz
  go_enter Try.func6, Try.ntmps6
  go_wp2_with fail
  refine hfew.mono ?_
  rintro e w1 ⟨nv', rfl, hown, hB⟩
  obtain ⟨a5, c5, rfl, -⟩ := holds_of_owns hown
  generalize hn5 : ((l.take 5).map (Value.int .i64)).length = n5 at *
  replace hn5 := hiddenI hn5
  have hX := (hB.block _ (by rw [hs2.out]; omega)).trans hX0.out
  have hR := (hB.block _ (by rw [hs2.out]; omega)).trans hR0.out
  have hnv := holds_of_owns hown
  have hBw : Below w.heap.size w w1 := hB2.out.trans (hB.mono (by rw [hs2.out]; omega))
  obtain ⟨⟨x0, x1, x2, x3⟩, z0, z1, z2, z3⟩ := box4 hX
  obtain ⟨⟨r0, r1, r2, r3⟩, y0, y1, y2, y3⟩ := box4 hR
  have hfinH : Hid ((((((w1.setCell ⟨w.heap.size, 1, none⟩ (.slice a5 n5 c5)).setCell ⟨w.heap.size + 1, 0, none⟩ (.int .i64 c)).setCell ⟨w.heap.size + 1, 1, none⟩ (.slice a5 n5 c5)).setCell ⟨w.heap.size + 1, 2, none⟩ (.int .i64 p)).setCell ⟨w.heap.size + 1, 3, none⟩ (.int .i64 r)).heap[w.heap.size + 1]? = some (.cells #[.int .i64 c, (.slice a5 n5 c5), .int .i64 p, .int .i64 r] 24)) :=
    heap_set4 ((heap_oI (by show w.heap.size ≠ _; omega)).trans hR) _ _ _ _
  have hBf : Hid (Below w.heap.size w (((((w1.setCell ⟨w.heap.size, 1, none⟩ (.slice a5 n5 c5)).setCell ⟨w.heap.size + 1, 0, none⟩ (.int .i64 c)).setCell ⟨w.heap.size + 1, 1, none⟩ (.slice a5 n5 c5)).setCell ⟨w.heap.size + 1, 2, none⟩ (.int .i64 p)).setCell ⟨w.heap.size + 1, 3, none⟩ (.int .i64 r))) :=
    ((((hBw.setCell (Nat.le_refl _) _).setCell (Nat.le_succ _) _).setCell (Nat.le_succ _) _).setCell (Nat.le_succ _) _).setCell (Nat.le_succ _) _
  have hnf : Hid (World.ownsRow (((((w1.setCell ⟨w.heap.size, 1, none⟩ (.slice a5 n5 c5)).setCell ⟨w.heap.size + 1, 0, none⟩ (.int .i64 c)).setCell ⟨w.heap.size + 1, 1, none⟩ (.slice a5 n5 c5)).setCell ⟨w.heap.size + 1, 2, none⟩ (.int .i64 p)).setCell ⟨w.heap.size + 1, 3, none⟩ (.int .i64 r)) 0 3 1 (.slice a5 n5 c5) (l.take 5).length ((l.take 5).map (Value.int .i64))) := by
    have hown2 := hown
    rcases hown2.2 with ⟨h1, h2⟩ | ⟨g, cap, cur, h1, h2, h3, h4, h5, h6, h7⟩
    · exact ⟨by simp, .inl ⟨h1, h2⟩⟩
    · rw [hs2.out] at h2
      have ho : ∀ (b : Nat) (v : Value) (j : Nat) (x : World), b ≠ g → (x.setCell ⟨b, j, none⟩ v).heap[g]? = x.heap[g]? := fun b v j x hb => heap_oI hb
      refine ⟨by simp, .inr ⟨g, cap, cur, h1, Nat.zero_le _, ?_, h4, h5, h6, h7⟩⟩
      rw [ho _ _ _ _ (by omega), ho _ _ _ _ (by omega), ho _ _ _ _ (by omega), ho _ _ _ _ (by omega), ho _ _ _ _ (by omega)]
      exact h3
  clear hX0 hR0 hB hX hR hnv hBw hown hfew hs2 hB2
  obtain ⟨R, hRe⟩ : ∃ R, R = w.heap.size + 1 := ⟨_, rfl⟩
  obtain ⟨X, hXe⟩ : ∃ X, X = w.heap.size := ⟨_, rfl⟩
  have n1 : X ≠ R := by omega
  have n2 : R ≠ X := by omega
  rw [← hXe] at x0 x1 x2 x3 z0 z1 z2 z3
  rw [← hRe] at r0 r1 r2 r3 y0 y1 y2 y3
  rw [← hRe, ← hXe]
  replace hRe := hiddenI hRe
  replace hXe := hiddenI hXe
  go_wp2
  replace hfinH := hfinH.out
  replace hBf := hBf.out
  replace hnf := hnf.out
  rw [← hRe.out, ← hXe.out] at hfinH hBf hnf
  refine bodyPost_ret (results_cell_row rfl _ _ R _ _ _ _ rfl hfinH Try.underlying24 rfl (by kernel_rfl)) rfl ⟨.slice a5 n5 c5, rfl, hnf, ?_⟩
  rw [hXe.out] at hBf ⊢
  exact hBf
theorem item_c (y : It) (nv : Value) (w : World) (hv : Holds w nv (y.l.map (Value.int .i64))) (hz : y.l.length ≤ 9223372036854775807) : Calls Try.prog 6 #[itV y nv] w fun e w' =>
    ∃ nv', e = .returned (itV (y.few 5) nv') ∧ Holds w' nv' ((y.few 5).l.map (Value.int .i64)) ∧ Below w.heap.size w w' :=
  (itemO_c y nv w hv hz).mono fun _ _ ⟨nv', he, ho, hB⟩ => ⟨nv', he, holds_of_owns ho, hB⟩
end Go.Proofs.Ytapdkdfgjjdbkaa
/-
  ROWS OF ITEMS: that came in, and in memory of one's own. No function is named here.
-/
namespace Go.Proofs.Ytapdkdfgjjdbkaa
open Go.ChangeShapes Go.WideShapes Go.ChangeAt Go.RowKit

def It.none : It := ⟨0, [], 0, 0⟩
/-- An item in four cells. -/
def ItAt (w : World) (b o : Nat) (y : It) (nv : Value) : Prop :=
  w.cell? ⟨b, o, none⟩ = some (.int .i64 y.c) ∧ w.cell? ⟨b, o + 1, none⟩ = some nv ∧ w.cell? ⟨b, o + 2, none⟩ = some (.int .i64 y.p) ∧ w.cell? ⟨b, o + 3, none⟩ = some (.int .i64 y.r) ∧ Holds w nv (y.l.map (Value.int .i64))
theorem ItAt.below {w w' : World} {b o : Nat} {y : It} {nv : Value} (h : ItAt w b o y nv) (hB : Below w.heap.size w w') : ItAt w' b o y nv := by
  obtain ⟨h0, h1, h2, h3, h4⟩ := h
  have hb := World.block_lt_of_cell? _ _ h0
  exact ⟨(hB.cell (p := ⟨b, o, Option.none⟩) hb).trans h0, (hB.cell (p := ⟨b, o + 1, Option.none⟩) hb).trans h1, (hB.cell (p := ⟨b, o + 2, Option.none⟩) hb).trans h2, (hB.cell (p := ⟨b, o + 3, Option.none⟩) hb).trans h3, h4.below hB⟩
/-- A slice of items. -/
def HoldsIL (w : World) (v : Value) (ys : List It) : Prop := ∃ a cap, v = .slice a ys.length cap ∧ (ys = [] ∨ ∃ b off, a = some ⟨b, off, none⟩ ∧ b < w.heap.size ∧ ∀ j, j < ys.length → ∃ nv, ItAt w b (off + j * 4) (ys.getD j It.none) nv)
theorem HoldsIL.below {w w' : World} {v : Value} {ys : List It} (h : HoldsIL w v ys) (hB : Below w.heap.size w w') : HoldsIL w' v ys := by
  obtain ⟨a, cap, h1, h2⟩ := h
  refine ⟨a, cap, h1, ?_⟩
  rcases h2 with h2 | ⟨b, off, h3, h4, h5⟩
  · exact .inl h2
  · exact .inr ⟨b, off, h3, Nat.lt_of_lt_of_le h4 hB.size, fun j hj => by obtain ⟨nv, h⟩ := h5 j hj; exact ⟨nv, h.below hB⟩⟩
theorem add_zero_addrI (a : Addr) : a.add 0 = a := by simp [Addr.add]
theorem add_plainI {b off : Nat} (j : Nat) : Addr.add ⟨b, off, none⟩ j = ⟨b, off + j, none⟩ := by
  by_cases hj : j = 0
  · subst hj; simp [Addr.add]
  · simp [Addr.add, hj]
theorem open_items {H : Type} {enc : TypeId × Value → H} {P : Program} {w : World} {sp : Nat → Bool} {held : Bool} {st t e : TypeId} {f0 f1 f2 f3 : Field} {v : Value} {d : DataW H} {qs : List MemPlace} {r : Reach} {b0 : Nat}
    (hst : P.underlying st = some (.slice t)) (he : P.underlying t = some (.struct #[f0, f1, f2, f3])) (h0 : P.underlying f0.type = some (.int .i64)) (h1 : P.underlying f1.type = some (.slice e)) (hel : P.underlying e = some (.int .i64)) (hec : P.cellsOf e = 1)
    (h2 : P.underlying f2.type = some (.int .i64)) (h3 : P.underlying f3.type = some (.int .i64)) (hn : P.cellsOf t = 4)
    (o0 : f0.offset = 0) (o1 : f1.offset = 1) (o2 : f2.offset = 2) (o3 : f3.offset = 3) (c0 : P.cellsOf f0.type = 1) (c1 : P.cellsOf f1.type = 1) (c2 : P.cellsOf f2.type = 1) (c3 : P.cellsOf f3.type = 1)
    (hsp : ∀ b, sp b = true) (hval : Value.okWide P w r b0 st v) (h : DataW.Trod enc P w 0 sp held st v d qs) : ∃ ys : List It, ys.length ≤ maxLen ∧ HoldsIL w v ys ∧ ∀ y ∈ ys, y.wf := by
  obtain ⟨a0, len, cap, rfl⟩ := okWide_slice hst hval
  obtain ⟨fuel, hf⟩ := h
  rcases DataW.trod_slice hst hf with ⟨hcs, _⟩ | ⟨a, len', cap', elems, rest, n, _, hcs, _, _, hl, hm, hlen, hel', _, _⟩
  · simp only [Value.cells, List.cons.injEq, Value.slice.injEq, and_true] at hcs
    obtain ⟨rfl, rfl, rfl⟩ := hcs
    exact ⟨[], by unfold maxLen; simp, ⟨none, 0, rfl, .inl rfl⟩, fun _ h => by cases h⟩
  · simp only [Value.cells, List.cons.injEq, Value.slice.injEq, and_true] at hcs
    obtain ⟨rfl, rfl, rfl⟩ := hcs
    have each : ∀ i, ∃ q : It × Value, i < len → w.cell? (a.add (i * 4)) = some (.int .i64 q.1.c) ∧ w.cell? ((a.add (i * 4)).add 1) = some q.2 ∧ w.cell? ((a.add (i * 4)).add 2) = some (.int .i64 q.1.p) ∧ w.cell? ((a.add (i * 4)).add 3) = some (.int .i64 q.1.r) ∧
        Holds w q.2 (q.1.l.map (Value.int .i64)) ∧ q.1.wf := by
      intro i
      by_cases hi : i < len
      · have hb := hel' i hi
        rw [List.getElem?_eq_getElem (by omega), hn, Option.bind_eq_some_iff] at hb
        obtain ⟨cs', hcs', hy⟩ := hb
        obtain ⟨_, hcl, hcc⟩ := World.cells?_some hcs'
        match cs', hcl with
        | [u0, u1, u2, u3], _ =>
          obtain ⟨y, e0, e2, e3, hh, hw⟩ := open_item_cells he h0 h1 hel hec h2 h3 o0 o1 o2 o3 c0 c1 c2 c3 hsp hy
          have k0 := hcc 0 (by omega)
          have k1 := hcc 1 (by omega)
          have k2 := hcc 2 (by omega)
          have k3 := hcc 3 (by omega)
          rw [add_zero_addrI] at k0
          exact ⟨⟨y, u1⟩, fun _ => ⟨by rw [k0, e0]; rfl, by rw [k1]; rfl, by rw [k2, e2]; rfl, by rw [k3, e3]; rfl, hh, hw⟩⟩
      · exact ⟨⟨It.none, undef⟩, fun h => absurd h hi⟩
    obtain ⟨f, hf⟩ := Classical.skolem.1 each
    obtain ⟨b, off, o⟩ := a
    by_cases hz : len = 0
    · subst hz
      exact ⟨[], by unfold maxLen; simp, ⟨_, cap, rfl, .inl rfl⟩, fun _ h => by cases h⟩
    · obtain rfl : o = none := by
        obtain ⟨hx, _⟩ := hf 0 (by omega)
        cases o with
        | none => rfl
        | some u => exact absurd hx (by simp only [Addr.add, World.cell?]; split <;> simp)
      have hbs : b < w.heap.size := by
        obtain ⟨hx, _⟩ := hf 0 (by omega)
        rw [add_plainI] at hx
        exact World.block_lt_of_cell? w _ hx
      refine ⟨(List.range len).map fun i => (f i).1, by simp; omega, ⟨some ⟨b, off, none⟩, cap, by simp, .inr ⟨b, off, rfl, hbs, fun j hj => ?_⟩⟩, fun y hy => ?_⟩
      · simp only [List.length_map, List.length_range] at hj
        obtain ⟨g0, g1, g2, g3, g4, _⟩ := hf j hj
        rw [add_plainI] at g0
        rw [add_plainI, add_plainI] at g1 g2 g3
        have e : ((List.range len).map fun i => (f i).1).getD j It.none = (f j).1 := by simp [List.getD, hj]
        rw [e]
        exact ⟨(f j).2, g0, g1, g2, g3, g4⟩
      · obtain ⟨i, hi, rfl⟩ := List.mem_map.1 hy
        exact (hf i (List.mem_range.1 hi)).2.2.2.2.2

/-! ### In memory of one's own -/
def cellsI (y : It) (nv : Value) : List Value := [.int .i64 y.c, nv, .int .i64 y.p, .int .i64 y.r]
/-- Cells that are items, one behind the other, each row of numbers in memory of its own. -/
inductive ItsIn (ti : TypeId) (w : World) : List Value → List It → Prop
  | nil : ItsIn ti w [] []
  | snoc {xs : List Value} {ys : List It} {y : It} {nv : Value} : ItsIn ti w xs ys → w.ownsRow 0 ti 1 nv y.l.length (y.l.map (Value.int .i64)) → ItsIn ti w (xs ++ cellsI y nv) (ys ++ [y])
theorem ItsIn.kept {ti : TypeId} {w w' : World} {xs : List Value} {ys : List It} (h : ItsIn ti w xs ys) (hB : Below w.heap.size w w') : ItsIn ti w' xs ys := by
  induction h with
  | nil => exact .nil
  | snoc _ hn ih => exact .snoc ih (owns_keep hn hB)
theorem own_ne {w : World} {B1 B2 t1 t2 s1 s2 n1 n2 : Nat} {v1 v2 : Value} {xs1 xs2 : List Value} (h1 : w.ownsRow B1 t1 s1 v1 n1 xs1) (h2 : w.ownsRow B2 t2 s2 v2 n2 xs2) (ht : t1 ≠ t2) : v1.ownBlock = none ∨ v1.ownBlock ≠ v2.ownBlock := by
  rcases h1.2 with ⟨e, _⟩ | ⟨g, cap, cur, e1, _, hc, _⟩
  · exact .inl (by rw [e]; rfl)
  · refine .inr fun e => ?_
    subst e1
    rcases h2.2 with ⟨e2, _⟩ | ⟨g', cap', cur', e2, _, hc', _⟩
    · subst e2; cases e
    · subst e2
      obtain rfl : g = g' := by simpa [Value.ownBlock] using e
      rw [hc] at hc'
      injection hc' with h
      injection h with _ h _
      exact ht h
theorem ItsIn.grown {ti te : TypeId} {w w' : World} {xs : List Value} {ys : List It} {B s n : Nat} {u : Value} {us : List Value} (h : ItsIn ti w xs ys) (hu : w.ownsRow B te s u n us) (ht : ti ≠ te) (hg : w.grownBy w' u.ownBlock) : ItsIn ti w' xs ys := by
  induction h with
  | nil => exact .nil
  | snoc _ hn ih => exact .snoc ih (hn.kept hg (own_ne hn hu ht))
theorem ItsIn.len {ti : TypeId} {w : World} {xs : List Value} {ys : List It} (h : ItsIn ti w xs ys) : xs.length = ys.length * 4 := by
  induction h with
  | nil => rfl
  | snoc _ _ ih => simp [cellsI, ih]; omega
theorem ItsIn.at {ti : TypeId} {w : World} {xs : List Value} {ys : List It} (h : ItsIn ti w xs ys) : ∀ j, j < ys.length → ∃ nv, xs[j * 4]? = some (.int .i64 (ys.getD j It.none).c) ∧ xs[j * 4 + 1]? = some nv ∧ xs[j * 4 + 2]? = some (.int .i64 (ys.getD j It.none).p) ∧
    xs[j * 4 + 3]? = some (.int .i64 (ys.getD j It.none).r) ∧ Holds w nv ((ys.getD j It.none).l.map (Value.int .i64)) := by
  induction h with
  | nil => intro j hj; simp at hj
  | @snoc xs ys y nv h hn ih =>
    intro j hj
    have hl := h.len
    rcases Nat.lt_or_ge j ys.length with hlt | hge
    · obtain ⟨nv', g0, g1, g2, g3, g4⟩ := ih j hlt
      have e : (ys ++ [y]).getD j It.none = ys.getD j It.none := by simp [List.getD, List.getElem?_append_left hlt]
      rw [e]
      exact ⟨nv', by rw [List.getElem?_append_left (by omega)]; exact g0, by rw [List.getElem?_append_left (by omega)]; exact g1, by rw [List.getElem?_append_left (by omega)]; exact g2, by rw [List.getElem?_append_left (by omega)]; exact g3, g4⟩
    · obtain rfl : j = ys.length := by simp at hj; omega
      have e : (ys ++ [y]).getD ys.length It.none = y := by simp [List.getD]
      rw [e]
      refine ⟨nv, ?_, ?_, ?_, ?_, holds_of_owns hn⟩
      · rw [List.getElem?_append_right (by omega), show ys.length * 4 - xs.length = 0 by omega]; rfl
      · rw [List.getElem?_append_right (by omega), show ys.length * 4 + 1 - xs.length = 1 by omega]; rfl
      · rw [List.getElem?_append_right (by omega), show ys.length * 4 + 2 - xs.length = 2 by omega]; rfl
      · rw [List.getElem?_append_right (by omega), show ys.length * 4 + 3 - xs.length = 3 by omega]; rfl
theorem holdsIL_of {ti : TypeId} {w : World} {base : Nat} {e : TypeId} {v : Value} {n : Nat} {xs : List Value} {ys : List It} (h : w.ownsRow base e 4 v n xs) (hi : ItsIn ti w xs ys) (hn : n = ys.length) : HoldsIL w v ys := by
  subst hn
  obtain ⟨hl, h⟩ := h
  rcases h with ⟨rfl, hz⟩ | ⟨g, cap, cur, rfl, hg, hcell, hnc, hcm, hsz, htake⟩
  · exact ⟨none, 0, by rw [hz], .inl (List.eq_nil_of_length_eq_zero hz)⟩
  · refine ⟨some ⟨g, 0, none⟩, cap, rfl, .inr ⟨g, 0, rfl, (Array.getElem?_eq_some_iff.1 hcell).1, fun j hj => ?_⟩⟩
    have hat : ∀ i u, xs[i]? = some u → w.cell? ⟨g, i, none⟩ = some u := fun i u hu => by
      rw [← htake, List.getElem?_take] at hu
      split at hu
      · simp only [World.cell?, hcell]
        simpa using hu
      · cases hu
    obtain ⟨nv, g0, g1, g2, g3, g4⟩ := hi.at j hj
    rw [Nat.zero_add]
    exact ⟨nv, hat _ _ g0, hat _ _ g1, hat _ _ g2, hat _ _ g3, g4⟩
end Go.Proofs.Ytapdkdfgjjdbkaa
/-
  ITEMS COPIED, somewhat cut: by contract.
-/
namespace Go.Proofs.Ytapdkdfgjjdbkaa
open Go.ChangeShapes Go.WideShapes Go.ChangeAt Go.RowKit

theorem infoIt : (Try.prog.info? 24).map (fun i => (i.zero, i.size, i.bytes)) = some (some (.agg #[.int .i64 0, .slice none 0 0, .int .i64 0, .int .i64 0]), 4, 48) := by kernel_rfl
theorem cell_four_new (w : World) (a b c d : Value) (t : TypeId) : ∀ j u, [a, b, c, d][j]? = some u → (w.alloc (.cells #[a, b, c, d] t)).cell? ((⟨w.heap.size, 0, none⟩ : Addr).add j) = some u := by
  intro j u hj
  have e : (w.alloc (.cells #[a, b, c, d] t)).heap[w.heap.size]? = some (.cells #[a, b, c, d] t) := by
    show (w.heap.push _)[w.heap.size]? = _
    simp
  rw [add_plainI, Nat.zero_add]
  simp only [World.cell?, e]
  simpa using hj
theorem take_snocY (ys : List It) (k : Nat) (hk : k < ys.length) : ys.take (k + 1) = ys.take k ++ [ys.getD k It.none] := by
  rw [List.take_add_one, List.getElem?_eq_getElem hk]; simp [List.getD, hk]
theorem hiddenY {p : Prop} (h : p) : Hid p := h
set_option maxHeartbeats 1600000 in
set_option maxRecDepth 20000 in
theorem items_c (v : Value) (ys : List It) (m : Nat) (w : World) (hv : HoldsIL w v ys) (hz : ys.length ≤ 9223372036854775807) (hzz : ∀ y ∈ ys, y.l.length ≤ 9223372036854775807) (hm : m ≤ 1000) :
    Calls Try.prog 13 #[v, .int .i64 m] w fun e w' =>
      ∃ v', e = .returned v' ∧ ∃ xs, w'.ownsRow w.heap.size 24 4 v' (ys.take m).length xs ∧ ItsIn 3 w' xs ((ys.take m).map fun y => y.few 5) ∧ Below w.heap.size w w' := by
  have hvk := hiddenY hv
  obtain ⟨a, cap, rfl, hrow⟩ := hv
  obtain ⟨i0, hi, hz0, hz1, hz2⟩ := info_parts infoIt
  replace hzz := hiddenY hzz
  go_enter Try.func13, Try.ntmps13
  go_wp2
  go_loopw [5, 6] (fun u i wr => ∃ (k : Nat) (xs : List Value), k ≤ ys.length ∧ k ≤ m ∧ i = .int .i64 k ∧ Hid (wr.ownsRow w.heap.size 24 4 u (ys.take k).length xs) ∧ Hid (ItsIn 3 wr xs ((ys.take k).map fun y => y.few 5)) ∧ Hid (Below w.heap.size w wr))
    (fun _ i _ => ys.length - (intOf i).toNat)
  case atStart => exact ⟨0, [], Nat.zero_le _, Nat.zero_le _, rfl, World.ownsRow_made w #[] 0 (Nat.le_refl _) (by unfold maxLen; omega) rfl, .nil, (Below.refl _ _).alloc (Nat.le_refl _) _⟩
  case round =>
    obtain ⟨k, xs, hk, hkm, rfl, hown, hits, hnx⟩ := hrel
    by_cases hlt : k < ys.length ∧ k < m
    · obtain ⟨hk1, hk2⟩ := hlt
      obtain ⟨b, off, rfl, nv, hit⟩ : ∃ b off, a = some ⟨b, off, none⟩ ∧ ∃ nv, ItAt wr b (off + k * 4) (ys.getD k It.none) nv := by
        rcases hrow with h0 | ⟨b, off, h1, hb, hc⟩
        · exact absurd h0 (fun e => by rw [e] at hk1; simp at hk1)
        · obtain ⟨nv, h⟩ := hc k hk1
          exact ⟨b, off, h1, nv, h.below (hnx.out.mono (Nat.le_refl _))⟩
      have hyl : Hid ((ys.getD k It.none).l.length ≤ 9223372036854775807) := by
        have e : ys.getD k It.none = ys[k] := by simp [List.getD, hk1]
        show _ ≤ _
        rw [e]
        exact hzz.out _ (List.getElem_mem hk1)
      have hsz := hnx.out.size
      have htk : (ys.take k).length = k := by rw [List.length_take]; omega
      have hts := hiddenY (take_snocY ys k hk1)
      generalize ys.getD k It.none = y at *
      obtain ⟨c0, c1, c2, c3, hn⟩ := hit
      have hcall := itemO_c y nv wr hn hyl.out
      obtain ⟨an, kn, hnv, -⟩ := hn
      generalize hnl : (y.l.map (Value.int .i64)).length = nl at hnv
      subst hnv
      have hj1 : (k : Int) < (ys.length : Int) := by omega
      have hj2 : (k : Int) < (m : Int) := by omega
      replace hnl := hiddenY hnl
      replace hsz := hiddenY hsz
      unfold itV at hcall
      go_wp2_with fail
      refine hcall.mono ?_
      rintro e w1 ⟨nv', rfl, hnv', hB1⟩
      clear hcall c0 c1 c2 c3
      have hown1 := owns_keep hown.out hB1
      have hits1 := hiddenY ((hits.out.kept hB1).snoc hnv')
      have hB2 : Hid (Below w.heap.size w w1) := hnx.out.trans (hB1.mono hsz.out)
      have hle : Hid (w.heap.size ≤ w1.heap.size) := hB2.out.size
      obtain ⟨a5, k5, rfl, -⟩ := holds_of_owns hnv'
      generalize (((y.few 5).l.map (Value.int .i64)).length) = n5 at *
      clear hown hits hnx hB1 hyl hnl hsz hnv'
      go_wp2_with (at_builtin; refine wpList_append_own _ rfl _ _ 31 rfl w.heap.size 24 i0 (.agg #[.int .i64 0, .slice none 0 0, .int .i64 0, .int .i64 0]) 4 48 Try.underlying31 hi hz0 hz1 hz2 rfl (by decide) _ _ _ rfl (hown1.alloc _) ⟨w1.heap.size, 0, none⟩ 1 1 [.int .i64 (y.few 5).c, .slice a5 n5 k5, .int .i64 (y.few 5).p, .int .i64 (y.few 5).r] rfl rfl (cell_four_new _ _ _ _ _ _) ?c2 ?c3 ?c4 ?c5 ?_)
      case c2 => intro u hu; simp at hu; rcases hu with rfl | rfl | rfl | rfl <;> rfl
      case c3 => rw [htk]; unfold maxLen; omega
      case c4 => rw [htk]; omega
      case c5 => have := hle.out; simp; omega
      · intro v' w2 hown' hgrow _
        have hlt2 : (ys.take (k + 1)).length = k + 1 := by rw [List.length_take]; omega
        have hB3 : Hid (Below w.heap.size w w2) := (hB2.out.alloc hle.out _).grown hgrow (by have := hle.out; simp; omega) (fun j hj => by have := (hown1.lt j hj).1; omega)
        have hits2 : Hid (ItsIn 3 w2 (xs ++ cellsI (y.few 5) (.slice a5 n5 k5)) ((ys.take (k + 1)).map fun y => y.few 5)) := by
          show ItsIn _ _ _ _
          rw [hts.out, List.map_append]
          exact (hits1.out.kept ((Below.refl _ _).alloc (Nat.le_refl _) _)).grown (hown1.alloc _) (by decide) hgrow
        have hown2 : Hid (w2.ownsRow w.heap.size 24 4 v' (ys.take (k + 1)).length (xs ++ cellsI (y.few 5) (.slice a5 n5 k5))) := by
          show World.ownsRow _ _ _ _ _ _ _
          rw [hlt2]; exact hown'
        clear hgrow hown1 hown' hits1 hB2
        go_wp2
        go_roundw
        case rel => exact ⟨k + 1, _, by omega, by omega, by go_num, hown2, hits2, hB3⟩
        case measure => simp [intOf]; omega
    · have e : ys.take m = ys.take k := by
        rcases Nat.lt_or_ge k ys.length with h | h
        · obtain rfl : k = m := by omega
          rfl
        · rw [List.take_of_length_le h, List.take_of_length_le (by omega)]
      have hfo : Hid (wr.ownsRow w.heap.size 24 4 u5 (min m ys.length) xs) := by
        have h := hown.out
        rwa [← e, List.length_take] at h
      have hfi : Hid (ItsIn 3 wr xs ((ys.take m).map fun y => y.few 5)) := by
        show ItsIn _ _ _ _
        rw [e]; exact hits.out
      clear hown hits e
      by_cases hk1 : k < ys.length
      · have hk2 : ¬ k < m := fun h => hlt ⟨hk1, h⟩
        have hj1 : (k : Int) < (ys.length : Int) := by omega
        have hj2 : ¬ (k : Int) < (m : Int) := by omega
        clear hlt
        go_wp2
        go_ret
        exact ⟨_, rfl, xs, hfo.out, by first | exact hfi.out | simpa using hfi.out, hnx.out⟩
      · have hj1 : ¬ (k : Int) < (ys.length : Int) := by omega
        clear hlt
        go_wp2
        go_ret
        exact ⟨_, rfl, xs, hfo.out, by first | exact hfi.out | simpa using hfi.out, hnx.out⟩
end Go.Proofs.Ytapdkdfgjjdbkaa
