/-
  ARCS LAID INTO THE ROWS OF THEIR NODES (csr.makeRows), by contract.
-/
import Derived.Test.YtfkcopokeofjoaaGreatCsMath
import Derived.Test.YtfkcopokeofjoaaGreatOrder
import Derived.Test.YtfkcopokeofjoaaGreatRec
import Derived.Maps.AppendAt
import Derived.OwnWalk
import Derived.Laws.Rows
namespace Go.Proofs.YtfkcopokeofjoaaGreat
open Go.ChangeShapes Go.WideShapes Go.ChangeAt Go.RowKit

/-- An arc. -/
structure Ar where
  lb : Nat
  to : Nat
  wt : Nat
  ed : Nat
def Ar.none : Ar := ⟨0, 0, 0, 0⟩
def arR : Rec Ar := ⟨fun p => [.int .i64 (p.lb : Int), .int .i64 (p.to : Int), .int .i64 (p.wt : Int), .int .i64 (p.ed : Int)], 4, by decide, fun _ => rfl, fun p u hu => by simp at hu; rcases hu with rfl | rfl | rfl | rfl <;> rfl, Ar.none⟩
structure Ar.ok (p : Ar) : Prop where
  lb : p.lb < 16384
  to : p.to < 16384
  wt : p.wt < 1048576
def Ar.key (p : Ar) : Nat := p.lb * 17179869184 + p.to * 1048576 + p.wt
def keysA (xs : List Ar) : List Int := xs.map fun p => (p.key : Int)
def cellsU (M : Nat) (f : Nat → Nat) : List Value := (List.range M).map fun (i : Nat) => Value.int .u64 (f i : Int)
theorem cellsU_len (M : Nat) (f : Nat → Nat) : (cellsU M f).length = M := by simp [cellsU]
theorem cellsU_at {M : Nat} (f : Nat → Nat) {i : Nat} (hi : i < M) : (cellsU M f)[i]? = some (.int .u64 (f i)) := by
  simp [cellsU, hi]
theorem cellsU_set {M : Nat} {f g : Nat → Nat} {j v : Nat} (hj : g j = v) (h : ∀ i, i < M → i ≠ j → g i = f i) : (cellsU M f).set j (.int .u64 (v : Int)) = cellsU M g := by
  apply List.ext_getElem?
  intro i
  rw [List.getElem?_set, cellsU_len]
  by_cases hi : i < M
  · rw [cellsU_at f hi, cellsU_at g hi]
    by_cases hij : j = i
    · subst hij; rw [if_pos rfl, if_pos hi, hj]
    · rw [if_neg hij, h i hi (fun e => hij e.symm)]
  · rw [List.getElem?_eq_none (l := cellsU M f) (by rw [cellsU_len]; omega), List.getElem?_eq_none (l := cellsU M g) (by rw [cellsU_len]; omega)]
    split
    · rw [if_neg (by omega)]
    · rfl
theorem cellsU_zero (M : Nat) : cellsU M (fun _ => 0) = List.replicate M (.int .u64 0) := by
  apply List.ext_getElem?
  intro i
  by_cases hi : i < M
  · rw [cellsU_at _ hi, List.getElem?_replicate, if_pos hi]; rfl
  · rw [List.getElem?_eq_none (by rw [cellsU_len]; omega), List.getElem?_eq_none (by simp; omega)]
/-- The keys of the first k. -/
def keyU (xs : List Ar) (k j : Nat) : Nat := if j < k then (xs.getD j Ar.none).key else 0
theorem keyU_step (xs : List Ar) (M k : Nat) : (cellsU M (keyU xs k)).set k (.int .u64 (((xs.getD k Ar.none).key : Nat) : Int)) = cellsU M (keyU xs (k + 1)) := by
  refine cellsU_set (v := (xs.getD k Ar.none).key) ?_ fun i _ hne => ?_
  · unfold keyU; rw [if_pos (by omega)]
  · unfold keyU
    by_cases h : i < k
    · rw [if_pos h, if_pos (by omega)]
    · rw [if_neg h, if_neg (by omega)]
theorem keyU_all (xs : List Ar) : cellsU xs.length (keyU xs xs.length) = (keysA xs).map (Value.int .u64) := by
  apply List.ext_getElem?
  intro i
  by_cases hi : i < xs.length
  · rw [cellsU_at _ hi]
    simp [keysA, keyU, hi, List.getD]
  · rw [List.getElem?_eq_none (by rw [cellsU_len]; omega), List.getElem?_eq_none (by simp [keysA]; omega)]
theorem or34 (a b : Nat) (hb : b < 17179869184) : a * 17179869184 ||| b = a * 17179869184 + b := by
  have h := Nat.shiftLeft_add_eq_or_of_lt (b := b) (i := 34) hb a
  rw [Nat.shiftLeft_eq] at h
  exact h.symm
theorem or20 (a b : Nat) (hb : b < 1048576) : a * 1048576 ||| b = a * 1048576 + b := by
  have h := Nat.shiftLeft_add_eq_or_of_lt (b := b) (i := 20) hb a
  rw [Nat.shiftLeft_eq] at h
  exact h.symm
theorem key_int {p : Ar} (h : p.ok) : ∃ K1 : Nat, bits .or .u64 ((p.lb : Int) * 17179869184) ((p.to : Int) * 1048576) = (K1 : Int) ∧ bits .or .u64 (K1 : Int) (p.wt : Int) = ((p.key : Nat) : Int) := by
  obtain ⟨h1, h2, h3⟩ := h
  refine ⟨p.lb * 17179869184 + p.to * 1048576, ?_, ?_⟩
  · have := u64_or_nat (p.lb * 17179869184) (p.to * 1048576) (by omega) (by omega)
    rw [or34 _ _ (by omega)] at this
    rw [show ((p.lb : Int) * 17179869184) = ((p.lb * 17179869184 : Nat) : Int) by omega, show ((p.to : Int) * 1048576) = ((p.to * 1048576 : Nat) : Int) by omega]
    exact this
  · have e : p.lb * 17179869184 + p.to * 1048576 = (p.lb * 16384 + p.to) * 1048576 := by omega
    have := u64_or_nat ((p.lb * 16384 + p.to) * 1048576) p.wt (by omega) (by omega)
    rw [or20 _ _ h3] at this
    rw [e, this, ← e]
    rfl
theorem ats_at {w : World} {a : Option Addr} {ats : List Nat} (h : RowAt w a (natsV ats)) {k : Nat} (hk : k < ats.length) : ∃ b o, a = some ⟨b, o, none⟩ ∧ b < w.heap.size ∧ w.cell? ⟨b, o + k, none⟩ = some (.int .i64 (ats.getD k 0 : Nat)) := by
  rcases h with h0 | ⟨b, o, rfl, hb, hc⟩
  · simp only [natsV, List.map_eq_nil_iff] at h0; subst h0; simp at hk
  · exact ⟨b, o, rfl, hb, hc k _ (by simp [natsV, hk])⟩
theorem pnew' (w : World) (o : Obj) : (w.alloc o).heap[w.heap.size]? = some o := by
  show (w.heap.push _)[w.heap.size]? = _
  simp
theorem own_le2 {w : World} {B B' t s n : Nat} {v : Value} {xs : List Value} (h : w.ownsRow B t s v n xs) (hB : B' ≤ B) : w.ownsRow B' t s v n xs := by
  obtain ⟨hl, h⟩ := h
  refine ⟨hl, ?_⟩
  rcases h with h | ⟨g, cap, cur, h1, h2, h3⟩
  · exact .inl h
  · exact .inr ⟨g, cap, cur, h1, Nat.le_trans hB h2, h3⟩
theorem made_arcs (k : Nat) : (madeCells #[.int .i64 0, .int .i64 0, .int .i64 0, .int .i64 0] (k * 4)).toList = arR.flat (List.replicate k Ar.none) := by
  apply List.ext_getElem?
  intro i
  by_cases hi : i < k * 4
  · have h1 := Rec.flat_at (R := arR) (List.replicate k Ar.none) (i / 4) (i % 4) (by simp; omega) (Nat.mod_lt _ (by decide))
    rw [show i / 4 * arR.n + i % 4 = i by show i / 4 * 4 + i % 4 = i; omega] at h1
    rw [h1]
    have h2 : (List.replicate k Ar.none).getD (i / 4) arR.dflt = Ar.none := by
      simp [List.getD, show i / 4 < k by omega]
    rw [h2]
    have h3 : i % 4 < 4 := Nat.mod_lt _ (by decide)
    have h5 : (madeCells #[.int .i64 0, .int .i64 0, .int .i64 0, .int .i64 0] (k * 4)).toList[i]? = some ((#[.int .i64 0, .int .i64 0, .int .i64 0, .int .i64 0] : Array Value)[i % 4]!) := by
      simp [madeCells, hi]
    rw [h5]
    rcases (by omega : i % 4 = 0 ∨ i % 4 = 1 ∨ i % 4 = 2 ∨ i % 4 = 3) with e | e | e | e <;> rw [e] <;> rfl
  · rw [List.getElem?_eq_none (by simp [madeCells]; omega), List.getElem?_eq_none (by rw [Rec.flat_len]; show _ * 4 ≤ _; simp; omega)]
theorem flat_set4 : ∀ (ts : List Ar) (q : Nat) (y : Ar), q < ts.length →
    ((((arR.flat ts).set (q * 4) (.int .i64 (y.lb : Int))).set (q * 4 + 1) (.int .i64 (y.to : Int))).set (q * 4 + 2) (.int .i64 (y.wt : Int))).set (q * 4 + 3) (.int .i64 (y.ed : Int)) = arR.flat (ts.set q y)
  | x :: r, 0, y, _ => rfl
  | x :: r, q + 1, y, h => by
    have ih := flat_set4 r q y (by simpa using h)
    rw [Rec.flat_cons, List.set_cons_succ, Rec.flat_cons, ← ih, show (q + 1) * 4 = q * 4 + 1 + 1 + 1 + 1 by omega]
    rfl
theorem put4_own {z : World} {B ga k q : Nat} {ts : List Ar} (y : Ar) (h : z.ownsRow B 78 4 (.slice (some ⟨ga, 0, none⟩) k k) k (arR.flat ts)) (hq : q < ts.length) :
    (((((z.setCell ⟨ga, q * 4, none⟩ (.int .i64 (y.lb : Int))).setCell ⟨ga, q * 4 + 1, none⟩ (.int .i64 (y.to : Int))).setCell ⟨ga, q * 4 + 2, none⟩ (.int .i64 (y.wt : Int))).setCell ⟨ga, q * 4 + 3, none⟩ (.int .i64 (y.ed : Int))).drew).ownsRow B 78 4 (.slice (some ⟨ga, 0, none⟩) k k) k (arR.flat (ts.set q y)) := by
  have h1 := (((h.stored (q * 4) (.int .i64 (y.lb : Int))).1.stored (q * 4 + 1) (.int .i64 (y.to : Int))).1.stored (q * 4 + 2) (.int .i64 (y.wt : Int))).1.stored (q * 4 + 3) (.int .i64 (y.ed : Int))
  rw [flat_set4 ts q y hq] at h1
  exact owns_keep h1.1 (Below.refl _ _).drew
theorem put4_other {z : World} {B t s n ga i : Nat} {v : Value} {xs : List Value} (a b c d : Value) (h : z.ownsRow B t s v n xs) (hne : v.ownBlock ≠ some ga) :
    (((((z.setCell ⟨ga, i, none⟩ a).setCell ⟨ga, i + 1, none⟩ b).setCell ⟨ga, i + 2, none⟩ c).setCell ⟨ga, i + 3, none⟩ d).drew).ownsRow B t s v n xs :=
  owns_keep (ownsRow_setCell_other (ownsRow_setCell_other (ownsRow_setCell_other (ownsRow_setCell_other h (a := ⟨ga, i, none⟩) hne a) (a := ⟨ga, i + 1, none⟩) hne b) (a := ⟨ga, i + 2, none⟩) hne c) (a := ⟨ga, i + 3, none⟩) hne d) (Below.refl _ _).drew
theorem put4_heap {z : World} {g ga i : Nat} {o : Obj} (a b c d : Value) (h : z.heap[g]? = some o) (hne : g ≠ ga) :
    (((((z.setCell ⟨ga, i, none⟩ a).setCell ⟨ga, i + 1, none⟩ b).setCell ⟨ga, i + 2, none⟩ c).setCell ⟨ga, i + 3, none⟩ d).drew).heap[g]? = some o := by
  show ((((z.setCell ⟨ga, i, none⟩ a).setCell ⟨ga, i + 1, none⟩ b).setCell ⟨ga, i + 2, none⟩ c).setCell ⟨ga, i + 3, none⟩ d).heap[g]? = some o
  rw [Below.heap_setCell _ _ _ _ hne, Below.heap_setCell _ _ _ _ hne, Below.heap_setCell _ _ _ _ hne, Below.heap_setCell _ _ _ _ hne]
  exact h
theorem infoU : (Tryz.prog.info? 90).map (fun i => (i.zero, i.size, i.bytes)) = some (some (.int .u64 0), 1, 8) := by kernel_rfl
theorem infoA : (Tryz.prog.info? 78).map (fun i => (i.zero, i.size, i.bytes)) = some (some (.agg #[.int .i64 0, .int .i64 0, .int .i64 0, .int .i64 0]), 4, 32) := by kernel_rfl

set_option maxHeartbeats 3200000 in
set_option maxRecDepth 100000 in
theorem makeRows_c (N : Nat) (ats : List Nat) (xs : List Ar) (va vb : Value) (w : World) (hN : N ≤ 1000) (hn : xs.length ≤ 1000) (hl : ats.length = xs.length) (hat : ∀ x ∈ ats, x < N) (hok : ∀ p ∈ xs, p.ok) (hva : Holds w va (natsV ats)) (hvb : HoldsR arR w vb xs) :
    Calls Tryz.prog 23 #[.int .i64 N, va, vb] w fun e w' => ∃ l sv av, e = .returned (.agg #[sv, av]) ∧ Ordered (keyOf (keysA xs)) xs.length l ∧
      w'.ownsRow w.heap.size 3 1 sv (N + 1) (cellsN (N + 1) (Go.Proofs.YtfkcopokeofjoaaGreat.below (fun p => ats.getD p 0) (List.range xs.length))) ∧
      w'.ownsRow w.heap.size 78 4 av xs.length (arR.flat ((sorted (fun p => ats.getD p 0) l (N + 1)).map fun p => xs.getD p Ar.none)) ∧ Below w.heap.size w w' := by
  obtain ⟨aa, ca, rfl, hra⟩ := hva
  obtain ⟨ab, cb, rfl, hrb⟩ := hvb
  obtain ⟨iu, hiu, hu0, hu1, hu2⟩ := info_parts infoU
  obtain ⟨ii, hii, hi0, hi1, hi2⟩ := info_parts infoInt
  obtain ⟨ia, hia, ha0, ha1, ha2⟩ := info_parts infoA
  obtain ⟨n, hnn⟩ : ∃ n, n = xs.length := ⟨_, rfl⟩
  rw [show (natsV ats).length = n by simp [natsV, hl, hnn]]
  rw [← hnn] at hn hl ⊢
  replace hnn := hidden hnn
  replace hl := hidden hl
  replace hra := hidden hra
  replace hrb := hidden hrb
  replace hok := hidden hok
  replace hat := hidden hat
  obtain ⟨D, hD⟩ : ∃ D : Nat → Nat, Hid (D = fun p => ats.getD p 0) := ⟨_, rfl⟩
  rw [← hD.out]
  go_enter Tryz.func23, Tryz.ntmps23
  go_wp2_with (refine wpList_make_full _ rfl _ _ 102 rfl w.heap.size 90 iu (.int .u64 0) 1 Tryz.underlying102 hiu hu0 hu1 .i64 .i64 _ _ n rfl rfl ?c1 ?c2 ?c3 ?c4 ?c5 ?_)
  case c1 => rfl
  case c2 => rfl
  case c3 => rw [hu2]; omega
  case c4 => unfold maxLen; omega
  case c5 => show _ ≤ (w.heap.push _).size; simp
  intro w0 hown0 hgrow0
  have hsz0 : w.heap.size < w0.heap.size := Nat.lt_of_lt_of_le (by show _ < (w.heap.push _).size; simp) hgrow0.size
  have hB0 : Below w.heap.size w w0 := ((Below.refl _ _).alloc (Nat.le_refl _) _).grown hgrow0 (by show _ ≤ (w.heap.push _).size; simp) (fun j hj => by cases hj)
  have hres0 : Hid (∃ cs : Value × Value, w0.heap[w.heap.size]? = some (.cells #[cs.1, cs.2] 71)) := by
    refine ⟨(.slice none 0 0, .slice none 0 0), (hgrow0.block w.heap.size (by show _ < (w.heap.push _).size; simp) (fun h => by cases h)).trans (pnew' _ _)⟩
  replace hown0 : w0.ownsRow w.heap.size 90 1 (.slice (some ⟨w.heap.size + 1, 0, none⟩) n n) n (cellsU n (keyU xs 0)) := by
    rw [show cellsU n (keyU xs 0) = cellsU n (fun _ => 0) from congrArg _ (funext fun j => by unfold keyU; rw [if_neg (by omega)]), cellsU_zero]
    simpa [madeCells, Value.cells, Nat.mod_one, List.map_const'] using hown0
  replace hown0 := hidden hown0
  replace hB0 := hidden hB0
  have hgk1 : w.heap.size < w.heap.size + 1 := Nat.lt_succ_self _
  generalize w.heap.size + 1 = gk at *
  go_wp2_with (refine wpList_make_full _ rfl _ _ 37 rfl w.heap.size 3 ii (.int .i64 0) 1 Tryz.underlying37 hii hi0 hi1 .i64 .i64 _ _ N rfl rfl ?d1 ?d2 ?d3 ?d4 ?d5 ?_)
  case d1 => rfl
  case d2 => rfl
  case d3 => rw [hi2]; omega
  case d4 => unfold maxLen; omega
  case d5 => omega
  intro w1 hown1 hgrow1
  have hB1 : Hid (Below w.heap.size w w1) := hB0.out.grown hgrow1 (by omega) (fun j hj => by cases hj)
  have hown2 : Hid (w1.ownsRow w.heap.size 3 1 (.slice (some ⟨w0.heap.size, 0, none⟩) N N) N (cellsN N (cntA D 0))) := by
    refine hidden ?_
    rw [show cellsN N (cntA D 0) = cellsN N (fun _ => 0) from congrArg _ (funext fun j => by simp [cntA, part]), cellsN_zero]
    simpa [madeCells, Value.cells, Nat.mod_one, List.map_const'] using hown1
  have hown3 : Hid (w1.ownsRow w.heap.size 90 1 (.slice (some ⟨gk, 0, none⟩) n n) n (cellsU n (keyU xs 0))) := owns_keep hown0.out ((Below.refl _ _).grown hgrow1 (Nat.le_refl _) (fun j hj => by cases hj))
  have hres1 : Hid (∃ cs : Value × Value, w1.heap[w.heap.size]? = some (.cells #[cs.1, cs.2] 71)) := by
    obtain ⟨cs, h⟩ := hres0.out
    exact ⟨cs, (hgrow1.block _ hsz0 (fun h => by cases h)).trans h⟩
  have hlt0 := (hown0.out.lt gk rfl).2
  have hgkl := (hown0.out.lt gk rfl).1
  have hgsl : w.heap.size ≤ w0.heap.size := hB0.out.size
  clear hown1 hgrow1 hown0 hres0 hgrow0 hB0
  have hgg : gk < w0.heap.size := hlt0
  generalize w0.heap.size = gs at *
  go_wp2
  go_loopw [25] (fun i z => ∃ k : Nat, k ≤ n ∧ i = .int .i64 k ∧ Hid (z.ownsRow w.heap.size 3 1 (.slice (some ⟨gs, 0, none⟩) N N) N (cellsN N (cntA D k))) ∧ Hid (z.ownsRow w.heap.size 90 1 (.slice (some ⟨gk, 0, none⟩) n n) n (cellsU n (keyU xs k))) ∧
      Hid (Below w.heap.size w z) ∧ Hid (∃ cs : Value × Value, z.heap[w.heap.size]? = some (.cells #[cs.1, cs.2] 71))) (fun i _ => n - (intOf i).toNat)
  case atStart => exact ⟨0, Nat.zero_le _, rfl, hown2, hown3, hB1, hres1⟩
  case round =>
    clear hown2 hown3 hB1 hres1
    obtain ⟨k, hk, rfl, hS, hK, hB, hR⟩ := hrel
    by_cases hlt : k < n
    · obtain ⟨b, o, rfl, hb, hc⟩ := rec_at (hrb.out.below hB.out) (show k < xs.length by rw [← hnn.out]; exact hlt)
      have hpok : (xs.getD k Ar.none).ok := hok.out _ (by
        rw [show xs.getD k Ar.none = xs[k]'(by rw [← hnn.out]; exact hlt) by simp [List.getD, show k < xs.length by rw [← hnn.out]; exact hlt]]
        exact List.getElem_mem _)
      have hst := hidden (keyU_step xs n k)
      have hc' : ∀ j u, (arR.enc (xs.getD k Ar.none))[j]? = some u → wr.cell? ⟨b, o + k * 4 + j, none⟩ = some u := hc
      clear hc
      generalize xs.getD k Ar.none = p at *
      obtain ⟨K1, hk1, hk2⟩ := key_int hpok
      have hkl : p.key < 562949953421312 := by
        obtain ⟨h1, h2, h3⟩ := hpok
        unfold Ar.key
        omega
      generalize hkey : p.key = K2 at *
      obtain ⟨lb, to, wt, ed⟩ := p
      obtain ⟨o1, o2, o3⟩ := hpok
      have e0 := hc' 0 _ rfl
      rw [Nat.add_zero] at e0
      have e1 := hc' 1 _ rfl
      have e2 := hc' 2 _ rfl
      have e3 := hc' 3 _ rfl
      simp only at o1 o2 o3 e0 e1 e2 e3 hk1 hk2
      clear hc' hkey
      obtain ⟨ba, oa, rfl, hba, f0⟩ := ats_at hra.out (show k < ats.length by rw [hl.out]; exact hlt)
      have hDk : D k = ats.getD k 0 := by rw [hD.out]
      have hdN : D k < N := by
        rw [hDk]
        exact hat.out _ (by
          rw [show ats.getD k 0 = ats[k]'(by rw [hl.out]; exact hlt) by simp [List.getD, show k < ats.length by rw [hl.out]; exact hlt]]
          exact List.getElem_mem _)
      rw [← hDk] at f0
      have hcs := hidden (cntA_step D N k)
      have hcl := cntA_le D k (D k)
      have hsc : wr.cell? ⟨gs, D k, none⟩ = some (.int .i64 (cntA D k (D k) : Nat)) := by
        rw [hS.out.cellAt (D k) (by omega), cellsN_at _ (by omega)]
      clear hDk
      generalize cntA D k (D k) = c at *
      generalize D k = d at *
      have hBz : Below wr.heap.size wr (wr.alloc (.cells #[.int .i64 lb, .int .i64 to, .int .i64 wt, .int .i64 ed] 78)) := (Below.refl _ _).alloc (Nat.le_refl _) _
      have hKz := owns_keep hK.out hBz
      have hSz := owns_keep hS.out hBz
      have hz0 := hidden hBz
      have hfk := hKz.frozenAt k
      obtain ⟨tv, htv⟩ : ∃ tv, (wr.alloc (.cells #[.int .i64 lb, .int .i64 to, .int .i64 wt, .int .i64 ed] 78)).cell? ⟨gk, k, none⟩ = some tv := by
        rw [hKz.cellAt _ (by omega)]
        exact ⟨_, List.getElem?_eq_getElem (by rw [cellsU_len]; omega)⟩
      have hst1 := hKz.stored k (.int .u64 (K2 : Int))
      rw [hst.out] at hst1
      have hS1 := ownsRow_setCell_other hSz (a := ⟨gk, k, none⟩) (by simp [Value.ownBlock]; omega) (.int .u64 (K2 : Int))
      have hB1 : Below w.heap.size w ((wr.alloc (.cells #[.int .i64 lb, .int .i64 to, .int .i64 wt, .int .i64 ed] 78)).setCell ⟨gk, k, none⟩ (.int .u64 (K2 : Int))) := (hB.out.trans (hBz.mono hB.out.size)).setCell hgkl _
      have f1 := (hB1.cell (p := ⟨ba, oa + k, none⟩) hba).trans f0
      have hs1 : ((wr.alloc (.cells #[.int .i64 lb, .int .i64 to, .int .i64 wt, .int .i64 ed] 78)).setCell ⟨gk, k, none⟩ (.int .u64 (K2 : Int))).cell? ⟨gs, d, none⟩ = some (.int .i64 (c : Int)) := by
        rw [hS1.cellAt d (by omega)]
        rw [hS.out.cellAt d (by omega)] at hsc
        exact hsc
      have hs2 := hS1.frozenAt d
      have hst2 := hS1.stored d (.int .i64 ((c : Int) + 1))
      rw [hcs.out] at hst2
      have hK2 := ownsRow_setCell_other hst1.1 (a := ⟨gs, d, none⟩) (by simp [Value.ownBlock]; omega) (.int .i64 ((c : Int) + 1))
      have hB2 := hidden (hB1.setCell (p := ⟨gs, d, none⟩) hgsl (.int .i64 ((c : Int) + 1)))
      have hR2 : Hid (∃ cs : Value × Value, (((wr.alloc (.cells #[.int .i64 lb, .int .i64 to, .int .i64 wt, .int .i64 ed] 78)).setCell ⟨gk, k, none⟩ (.int .u64 (K2 : Int))).setCell ⟨gs, d, none⟩ (.int .i64 ((c : Int) + 1))).heap[w.heap.size]? = some (.cells #[cs.1, cs.2] 71)) := by
        obtain ⟨cs, h⟩ := hR.out
        refine ⟨cs, ?_⟩
        rw [Below.heap_setCell _ _ _ _ (fun e => by have e : w.heap.size = gs := e; omega), Below.heap_setCell _ _ _ _ (fun e => by have e : w.heap.size = gk := e; omega)]
        exact (hBz.block _ (Array.getElem?_eq_some_iff.1 h).1).trans h
      replace hst2 := hidden hst2.1
      replace hK2 := hidden hK2
      clear hst1 hS1 hB1 hcs hst hBz hKz hSz hz0 hB hS hK hrb hra hsc
      go_wp2
      go_roundw
      case rel => exact ⟨k + 1, by omega, by go_num, hst2, hK2, hB2, hR2⟩
      case measure => simp [intOf]; omega
    · obtain rfl : k = n := by omega
      have hrowK : Hid (wr.ownsRow w.heap.size 90 1 (.slice (some ⟨gk, 0, none⟩) k k) k ((keysA xs).map (Value.int .u64))) := by
        have h := hK.out
        rw [show cellsU k (keyU xs k) = (keysA xs).map (Value.int .u64) by rw [hnn.out]; exact keyU_all xs] at h
        exact h
      have hzs : Hid (cellsN N (cntA D k) = ((List.range N).map fun i => (cntA D k i : Int)).map (Value.int .i64)) := by
        refine hidden ?_
        simp [cellsN]
      have hzl : Hid (((List.range N).map fun i => (cntA D k i : Int)).length = N) := by
        refine hidden ?_
        simp
      have hpb := hidden (fun j hj => pre_below D k N j hj)
      have hzg : Hid (∀ j, j < N → ((List.range N).map fun i => (cntA D k i : Int)).getD j 0 = ((cntA D k j : Nat) : Int)) := by
        refine hidden fun j hj => ?_
        simp [List.getD, hj]
      have hbl := hidden (fun j (hj : j ≤ N) => below_mono D (List.range k) (a := j) (b := N + 1) (by omega))
      have hD1 : Hid (∀ p, D p < N + 1) := by
        refine hidden fun p => ?_
        rw [hD.out]
        by_cases hp : p < ats.length
        · have := hat.out (ats.getD p 0) (by
            rw [show ats.getD p 0 = ats[p] by simp [List.getD, hp]]
            exact List.getElem_mem _)
          show ats.getD p 0 < _
          omega
        · show ats.getD p 0 < _
          simp [List.getD, Nat.not_lt.1 hp]
      have hfull : Hid (Go.Proofs.YtfkcopokeofjoaaGreat.below D (List.range k) (N + 1) = k) := by
        refine hidden ?_
        rw [below_allM hD1.out, List.length_range]
      have hok2 : Hid (AllOk ((List.range N).map fun i => (cntA D k i : Int))) := by
        refine hidden fun j hj => ?_
        have hj' : j < N := by rw [← hzl.out]; exact hj
        refine ⟨?_, ?_⟩
        · rw [hzg.out j hj']; omega
        · rw [hzg.out j hj', hpb.out j (by omega)]
          have h1 := cntA_le D k j
          have h2 := hbl.out j (by omega)
          rw [hfull.out] at h2
          omega
      have hsum := sums_c (.slice (some ⟨gs, 0, none⟩) N N) _ wr (by have h := holds_of_owns hS.out; rw [hzs.out] at h; exact h) (by rw [hzl.out]; exact hN) (fun z hz => by
        obtain ⟨i, -, rfl⟩ := List.mem_map.1 hz
        have := cntA_le D k i
        simp [Lit.wf, IntKind.min, IntKind.max, IntKind.signed, IntKind.bits]
        omega)
      go_wp2_with fail
      refine hsum.mono ?_
      rintro e w2 ⟨sv, code, rfl, hBs, hh⟩
      rcases hh with ⟨-, rfl, hst⟩ | ⟨hno, -⟩
      case inr => exact absurd hok2.out hno
      rw [hzl.out] at hst
      have hse : ((List.range (N + 1)).map (pre ((List.range N).map fun i => (cntA D k i : Int)))) = (List.range (N + 1)).map fun j => ((Go.Proofs.YtfkcopokeofjoaaGreat.below D (List.range k) j : Nat) : Int) := List.map_congr_left fun j hj => hpb.out j (by have := List.mem_range.1 hj; omega)
      rw [hse] at hst
      have hB2 : Hid (Below w.heap.size w w2) := hB.out.trans (hBs.mono hB.out.size)
      have hK2 := hidden (owns_keep hrowK.out hBs)
      have hR2 : Hid (∃ cs : Value × Value, w2.heap[w.heap.size]? = some (.cells #[cs.1, cs.2] 71)) := by
        obtain ⟨cs, h⟩ := hR.out
        exact ⟨cs, (hBs.block _ (Array.getElem?_eq_some_iff.1 h).1).trans h⟩
      have hwrl := hB.out.size
      have hgkw := (hrowK.out.lt gk rfl).2
      have hw2l := hBs.size
      obtain ⟨g1, c1, rfl, hg1⟩ : ∃ g c, sv = .slice (some ⟨g, 0, none⟩) (N + 1) c ∧ wr.heap.size ≤ g := by
        rcases hst.2 with ⟨_, h0⟩ | ⟨g, c, cur, h1, h2, _⟩
        · omega
        · exact ⟨g, c, h1, h2⟩
      replace hst := hidden hst
      clear hS hK hB hR hrowK hzs hzl hpb hzg hok2 hsum hse hBs
      go_wp2_with (refine wpList_make_full _ rfl _ _ 69 rfl w.heap.size 78 ia (.agg #[.int .i64 0, .int .i64 0, .int .i64 0, .int .i64 0]) 4 Tryz.underlying69 hia ha0 ha1 .i64 .i64 _ _ k rfl rfl ?m1 ?m2 ?m3 ?m4 ?m5 ?_)
      case m1 => rfl
      case m2 => rfl
      case m3 => rw [ha2]; omega
      case m4 => unfold maxLen; omega
      case m5 => omega
      intro w3 hown3 hgrow3
      have hB3 : Hid (Below w.heap.size w w3) := hB2.out.grown hgrow3 (by omega) (fun j hj => by cases hj)
      have hBg : Below w2.heap.size w2 w3 := (Below.refl _ _).grown hgrow3 (Nat.le_refl _) (fun j hj => by cases hj)
      have hA3 : Hid (w3.ownsRow w.heap.size 78 4 (.slice (some ⟨w2.heap.size, 0, none⟩) k k) k (arR.flat (List.replicate k Ar.none))) := by
        refine hidden ?_
        rw [made_arcs] at hown3
        exact hown3
      have hst3 := hidden (owns_keep hst.out hBg)
      have hK3 := hidden (owns_keep hK2.out hBg)
      have hR3 : Hid (∃ cs : Value × Value, w3.heap[w.heap.size]? = some (.cells #[cs.1, cs.2] 71)) := by
        obtain ⟨cs, h⟩ := hR2.out
        exact ⟨cs, (hBg.block _ (Array.getElem?_eq_some_iff.1 h).1).trans h⟩
      have hgal := hBg.size
      have hga2 := (hA3.out.lt w2.heap.size rfl).2
      have hg12 := (hst.out.lt g1 rfl).2
      clear hown3 hgrow3 hst hK2 hR2 hB2 hBg
      generalize hga : w2.heap.size = ga at *
      have hBw := hidden ((Below.refl w3.heap.size w3).alloc (Nat.le_refl _) (.cells #[.slice (some ⟨g1, 0, none⟩) (N + 1) c1, .slice (some ⟨ga, 0, none⟩) k k] 71))
      have hbox := hidden (pnew' w3 (.cells #[.slice (some ⟨g1, 0, none⟩) (N + 1) c1, .slice (some ⟨ga, 0, none⟩) k k] 71))
      have hst4 := hidden (owns_keep hst3.out hBw.out)
      have hcl := Tryz.slices_Clone_int g1 0 (N + 1) c1 ((List.range (N + 1)).map fun j => ((Go.Proofs.YtfkcopokeofjoaaGreat.below D (List.range k) j : Nat) : Int)) (w3.alloc (.cells #[.slice (some ⟨g1, 0, none⟩) (N + 1) c1, .slice (some ⟨ga, 0, none⟩) k k] 71)) (by simp) (by omega) (fun j hj => by
        have hj' : j < N + 1 := by simpa using hj
        rw [Nat.zero_add, hst4.out.cellAt j (by simpa using hj')]
        simp [List.getD, hj'])
      go_wp2_with fail
      refine hcl.mono ?_
      rintro e w5 ⟨nv, rfl, hn5, hnn5, hB5⟩
      have hK5 := hidden (owns_keep (owns_keep hK3.out hBw.out) hB5)
      have hst5 := hidden (owns_keep hst4.out hB5)
      have hA5 := hidden (owns_keep (owns_keep hA3.out hBw.out) hB5)
      have hbox5 := hidden ((hB5.block _ (Array.getElem?_eq_some_iff.1 hbox.out).1).trans hbox.out)
      have hR5 : Hid (∃ cs : Value × Value, w5.heap[w.heap.size]? = some (.cells #[cs.1, cs.2] 71)) := by
        obtain ⟨cs, h⟩ := hR3.out
        exact ⟨cs, ((hBw.out.trans (hB5.mono hBw.out.size)).block _ (Array.getElem?_eq_some_iff.1 h).1).trans h⟩
      have hBw5 : Hid (Below w.heap.size w w5) := hB3.out.trans ((hBw.out.trans (hB5.mono hBw.out.size)).mono hB3.out.size)
      have h34 := hBw.out.size
      have h45 := hB5.size
      have hs4 : (w3.alloc (.cells #[.slice (some ⟨g1, 0, none⟩) (N + 1) c1, .slice (some ⟨ga, 0, none⟩) k k] 71)).heap.size = w3.heap.size + 1 := by show (w3.heap.push _).size = _; simp
      obtain ⟨gn, cn, rfl, hgn⟩ : ∃ g c, nv = .slice (some ⟨g, 0, none⟩) (N + 1) c ∧ w3.heap.size + 1 ≤ g := by
        rcases hn5.2 with ⟨_, h0⟩ | ⟨g, c, cur, h1, h2, _⟩
        · omega
        · exact ⟨g, c, h1, by rw [← hs4]; exact h2⟩
      have hn6 : Hid (w5.ownsRow w.heap.size 3 1 (.slice (some ⟨gn, 0, none⟩) (N + 1) cn) (N + 1) (cellsN (N + 1) (nxt D k []))) := by
        have h : w5.ownsRow w.heap.size 3 1 (.slice (some ⟨gn, 0, none⟩) (N + 1) cn) (N + 1) _ := own_le2 hn5 (by have := hB3.out.size; omega)
        rw [List.take_of_length_le (by simp)] at h
        rw [nxt_zero]
        have e : cellsN (N + 1) (fun b => Go.Proofs.YtfkcopokeofjoaaGreat.below D (List.range k) b) = ((List.range (N + 1)).map fun j => ((Go.Proofs.YtfkcopokeofjoaaGreat.below D (List.range k) j : Nat) : Int)).map (Value.int .i64) := by simp [cellsN]
        rw [e]
        exact h
      have hgn5 := (hn6.out.lt gn rfl).2
      clear hcl hn5 hnn5 hB5 hst4 hK3 hA3 hR3 hst3 hbox hB3 hBw hs4
      have hkl : (keysA xs).length = k := by simp [keysA, hnn.out]
      have hord := order_c (.slice (some ⟨gk, 0, none⟩) k k) (keysA xs) w5 (holds_of_owns hK5.out) (by rw [hkl]; exact hn) (fun z hz => by
        obtain ⟨p, hp, rfl⟩ := List.mem_map.1 hz
        obtain ⟨q1, q2, q3⟩ := hok.out p hp
        simp [Lit.wf, IntKind.min, IntKind.max, IntKind.signed, IntKind.bits, Ar.key]
        omega)
      rw [hkl] at hord
      replace hkl := hidden hkl
      go_wp2_with fail
      refine hord.mono ?_
      rintro e w6 ⟨ov, l, rfl, hol, hov, hB6⟩
      have hst6 := hidden (owns_keep hst5.out hB6)
      have hA6 := hidden (owns_keep hA5.out hB6)
      have hn7 := hidden (owns_keep hn6.out hB6)
      have hbox6 := hidden ((hB6.block _ (Array.getElem?_eq_some_iff.1 hbox5.out).1).trans hbox5.out)
      have hR6 : Hid (∃ cs : Value × Value, w6.heap[w.heap.size]? = some (.cells #[cs.1, cs.2] 71)) := by
        obtain ⟨cs, h⟩ := hR5.out
        exact ⟨cs, (hB6.block _ (Array.getElem?_eq_some_iff.1 h).1).trans h⟩
      have hBw6 : Hid (Below w.heap.size w w6) := hBw5.out.trans (hB6.mono hBw5.out.size)
      obtain ⟨ao, co, rfl⟩ : ∃ a c, ov = .slice a k c := by
        rcases hov.2 with ⟨rfl, h0⟩ | ⟨g, cap, cur, rfl, _⟩
        · exact ⟨none, 0, by rw [h0]⟩
        · exact ⟨_, _, rfl⟩
      replace hov := hidden hov
      have hll : Hid (l.length = k) := hidden hol.len
      have hpm : Hid (l.Perm (List.range k)) := hidden hol.perm
      replace hol := hidden hol
      have hbx3 : Hid (w6.heap[w3.heap.size]? = some (.cells #[.slice (some ⟨g1, 0, none⟩) (N + 1) c1, .slice (some ⟨ga, 0, none⟩) k k] 71)) := hbox6
      have hw3l : ga < w3.heap.size := hga2
      have hg3 : g1 < w3.heap.size := by omega
      have hw0 : w.heap.size < ga := by omega
      have hgaw : w.heap.size ≤ ga := by omega
      have hgnw : w.heap.size ≤ gn := by omega
      clear hst5 hA5 hn6 hbox5 hR5 hBw5 hB6 hK5 hord hbox6
      generalize w3.heap.size = gb at *
      generalize w5.heap.size = B5 at *
      generalize wr.heap.size = B2 at *
      go_wp2
      go_loopw [71] (fun i z => ∃ (j : Nat) (ts : List Ar), j ≤ k ∧ i = .int .i64 j ∧ Hid (ts.length = k) ∧ Hid (LaidA (fun p => xs.getD p Ar.none) D (N + 1) k (l.take j) ts) ∧ Hid (z.ownsRow w.heap.size 78 4 (.slice (some ⟨ga, 0, none⟩) k k) k (arR.flat ts)) ∧
          Hid (z.ownsRow w.heap.size 3 1 (.slice (some ⟨gn, 0, none⟩) (N + 1) cn) (N + 1) (cellsN (N + 1) (nxt D k (l.take j)))) ∧ Hid (z.ownsRow B2 3 1 (.slice (some ⟨g1, 0, none⟩) (N + 1) c1) (N + 1) (((List.range (N + 1)).map fun j => ((Go.Proofs.YtfkcopokeofjoaaGreat.below D (List.range k) j : Nat) : Int)).map (Value.int .i64))) ∧
          Hid (z.heap[gb]? = some (.cells #[.slice (some ⟨g1, 0, none⟩) (N + 1) c1, .slice (some ⟨ga, 0, none⟩) k k] 71)) ∧ Hid (∃ cs : Value × Value, z.heap[w.heap.size]? = some (.cells #[cs.1, cs.2] 71)) ∧ Hid (z.ownsRow B5 3 1 (.slice ao k co) k (natsV l)) ∧ Hid (Below w.heap.size w z)) (fun i _ => k - (intOf i).toNat)
      case atStart => exact ⟨0, List.replicate k Ar.none, Nat.zero_le _, rfl, hidden (by simp), hidden (fun b j p _ h => by simp [part] at h), hA6, hn7, hst6, hbx3, hR6, hov, hBw6⟩
      case round =>
        clear hA6 hn7 hst6 hbx3 hR6 hov hBw6
        obtain ⟨j, ts, hj, rfl, htl, hla, hA, hnr, hsr, hbx, hRr, hO, hBz⟩ := hrel
        by_cases hlt : j < k
        · have hjl : j < l.length := by rw [hll.out]; exact hlt
          have hpk : l.getD j 0 < k := by
            have : l.getD j 0 ∈ List.range k := hpm.out.subset (by simp [List.getD, hjl])
            exact List.mem_range.1 this
          obtain ⟨bo, oo, rfl, -, f0⟩ := ats_at (a := ao) (ats := l) (by obtain ⟨a', c', h1, h2⟩ := holds_of_owns hO.out; cases h1; exact h2) hjl
          have hla2 : Hid (LaidA (fun p => xs.getD p Ar.none) D (N + 1) k (l.take (j + 1)) (ts.set (nxt D k (l.take j) (D (l.getD j 0))) (xs.getD (l.getD j 0) Ar.none))) := laidA_step hD1.out hpm.out hjl htl.out hla.out
          obtain ⟨hq1, -⟩ := nxt_lt (M := N + 1) hD1.out hpm.out hjl
          have hns := hidden (nxt_step D k (N + 1) l j hjl)
          have hdl := hD1.out (l.getD j 0)
          have g0 : wr.cell? ⟨gn, D (l.getD j 0), none⟩ = some (.int .i64 (nxt D k (l.take j) (D (l.getD j 0)) : Nat)) := by
            rw [hnr.out.cellAt _ (by omega), cellsN_at _ (by omega)]
          obtain ⟨ba, oa, rfl, hba, f1⟩ := ats_at hra.out (show l.getD j 0 < ats.length by rw [hl.out]; exact hpk)
          obtain ⟨b, o, rfl, hb, hc⟩ := rec_at (hrb.out) (show l.getD j 0 < xs.length by rw [← hnn.out]; exact hpk)
          have hDk : D (l.getD j 0) = ats.getD (l.getD j 0) 0 := by rw [hD.out]
          rw [← hDk] at f1
          have f2 := (hBz.out.cell (p := ⟨ba, oa + l.getD j 0, none⟩) hba).trans f1
          have hc' : ∀ r u, (arR.enc (xs.getD (l.getD j 0) Ar.none))[r]? = some u → wr.cell? ⟨b, o + l.getD j 0 * 4 + r, none⟩ = some u := fun r u h => (hBz.out.cell (p := ⟨b, o + l.getD j 0 * 4 + r, none⟩) hb).trans (hc r u h)
          clear hDk f1 hc
          have hx : Hid (∃ x, x = xs.getD (l.getD j 0) Ar.none) := hidden ⟨_, rfl⟩
          generalize nxt D k (l.take j) (D (l.getD j 0)) = q at *
          generalize xs.getD (l.getD j 0) Ar.none = y at *
          generalize D (l.getD j 0) = d at *
          generalize l.getD j 0 = p at *
          obtain ⟨lb, to, wt, ed⟩ := y
          have e0 := hc' 0 _ rfl
          rw [Nat.add_zero] at e0
          have e1 := hc' 1 _ rfl
          have e2 := hc' 2 _ rfl
          have e3 := hc' 3 _ rfl
          simp only at e0 e1 e2 e3
          have hbc : wr.cell? ⟨gb, 0, none⟩ = some (.slice (some ⟨g1, 0, none⟩) (N + 1) c1) ∧ wr.cell? ⟨gb, 1, none⟩ = some (.slice (some ⟨ga, 0, none⟩) k k) := by
            have h := hbx.out
            simp [World.cell?, h]
          obtain ⟨b0, b1⟩ := hbc
          have hlen : (arR.flat ts).length = k * 4 := by rw [Rec.flat_len, htl.out]; rfl
          have htv : ∀ r, r < 4 → ∃ tv, wr.cell? ⟨ga, q * 4 + r, none⟩ = some tv := fun r hr => by
            rw [hA.out.cellAt _ (by omega)]
            exact ⟨_, List.getElem?_eq_getElem (by omega)⟩
          obtain ⟨t0, r0⟩ := htv 0 (by omega)
          obtain ⟨t1, r1⟩ := htv 1 (by omega)
          obtain ⟨t2, r2⟩ := htv 2 (by omega)
          obtain ⟨t3, r3⟩ := htv 3 (by omega)
          have v0 := hA.out.frozenAt (q * 4)
          have v1 := hA.out.frozenAt (q * 4 + 1)
          have v2 := hA.out.frozenAt (q * 4 + 2)
          have v3 := hA.out.frozenAt (q * 4 + 3)
          rw [Nat.add_zero] at r0
          clear hc' hx htv hlen
          go_wp2
          go_region
          have hbo := (hO.out.lt bo rfl).1
          have hA2 := hidden (put4_own ⟨lb, to, wt, ed⟩ hA.out (show q < ts.length by rw [htl.out]; exact hq1))
          have hn2 := put4_other (ga := ga) (i := q * 4) (.int .i64 (lb : Int)) (.int .i64 (to : Int)) (.int .i64 (wt : Int)) (.int .i64 (ed : Int)) hnr.out (by simp [Value.ownBlock]; omega)
          have hs2 := put4_other (ga := ga) (i := q * 4) (.int .i64 (lb : Int)) (.int .i64 (to : Int)) (.int .i64 (wt : Int)) (.int .i64 (ed : Int)) hsr.out (by simp [Value.ownBlock]; omega)
          have hO2 := put4_other (ga := ga) (i := q * 4) (.int .i64 (lb : Int)) (.int .i64 (to : Int)) (.int .i64 (wt : Int)) (.int .i64 (ed : Int)) hO.out (by simp [Value.ownBlock]; omega)
          have hbx2 := put4_heap (ga := ga) (i := q * 4) (.int .i64 (lb : Int)) (.int .i64 (to : Int)) (.int .i64 (wt : Int)) (.int .i64 (ed : Int)) hbx.out (by omega)
          have hRr2 := fun (cs : Value × Value) h => put4_heap (ga := ga) (i := q * 4) (o := .cells #[cs.1, cs.2] 71) (.int .i64 (lb : Int)) (.int .i64 (to : Int)) (.int .i64 (wt : Int)) (.int .i64 (ed : Int)) (h : wr.heap[w.heap.size]? = _) (by omega)
          have hBz2 := (((((hBz.out.setCell (p := ⟨ga, q * 4, none⟩) hgaw (.int .i64 (lb : Int))).setCell (p := ⟨ga, q * 4 + 1, none⟩) hgaw (.int .i64 (to : Int))).setCell (p := ⟨ga, q * 4 + 2, none⟩) hgaw (.int .i64 (wt : Int))).setCell (p := ⟨ga, q * 4 + 3, none⟩) hgaw (.int .i64 (ed : Int))).drew)
          have hnf := hn2.frozenAt d
          have hnst := hn2.stored d (.int .i64 ((q : Int) + 1))
          rw [hns.out] at hnst
          have g1' := (hn2.cellAt d (by omega)).trans ((hnr.out.cellAt d (by omega)).symm.trans g0)
          have hql := hq1
          have hA3 := hidden (ownsRow_setCell_other hA2.out (a := ⟨gn, d, none⟩) (by simp [Value.ownBlock]; omega) (.int .i64 ((q : Int) + 1)))
          have hs3 := hidden (ownsRow_setCell_other hs2 (a := ⟨gn, d, none⟩) (by simp [Value.ownBlock]; omega) (.int .i64 ((q : Int) + 1)))
          have hO3 := hidden (ownsRow_setCell_other hO2 (a := ⟨gn, d, none⟩) (by simp [Value.ownBlock]; omega) (.int .i64 ((q : Int) + 1)))
          have hbx3' := hidden ((Below.heap_setCell _ ⟨gn, d, none⟩ (.int .i64 ((q : Int) + 1)) gb (fun e => by have e : gb = gn := e; omega)).trans hbx2)
          have hRr3 : Hid (∃ cs : Value × Value, ((((((wr.setCell ⟨ga, q * 4, none⟩ (.int .i64 (lb : Int))).setCell ⟨ga, q * 4 + 1, none⟩ (.int .i64 (to : Int))).setCell ⟨ga, q * 4 + 2, none⟩ (.int .i64 (wt : Int))).setCell ⟨ga, q * 4 + 3, none⟩ (.int .i64 (ed : Int))).drew).setCell ⟨gn, d, none⟩ (.int .i64 ((q : Int) + 1))).heap[w.heap.size]? = some (.cells #[cs.1, cs.2] 71)) := by
            obtain ⟨cs, h⟩ := hRr.out
            exact ⟨cs, (Below.heap_setCell _ ⟨gn, d, none⟩ (.int .i64 ((q : Int) + 1)) w.heap.size (fun e => by have e : w.heap.size = gn := e; omega)).trans (hRr2 cs h)⟩
          have hBz3 := hidden (hBz2.setCell (p := ⟨gn, d, none⟩) hgnw (.int .i64 ((q : Int) + 1)))
          replace hnst := hidden hnst.1
          replace hsr := hidden hsr
          clear hA2 hn2 hs2 hO2 hbx2 hRr2 hBz2 hA hnr hsr hbx hRr hO hBz hns hla e0 e1 e2 e3 r0 r1 r2 r3 v0 v1 v2 v3 b0 b1 f0 f2 g0
          go_wp2
          go_roundw
          case rel => exact ⟨j + 1, _, by omega, by go_num, hidden (by rw [List.length_set]; exact htl.out), hla2, hA3, hnst, hs3, hbx3', hRr3, hO3, hBz3⟩
          case measure => simp [intOf]; omega
        · obtain rfl : j = k := by omega
          obtain ⟨⟨u0, u1⟩, h⟩ := hRr.out
          have hrc : wr.cell? ⟨w.heap.size, 0, none⟩ = some u0 ∧ wr.cell? ⟨w.heap.size, 1, none⟩ = some u1 ∧ wr.frozen? ⟨w.heap.size, 0, none⟩ = false ∧ wr.frozen? ⟨w.heap.size, 1, none⟩ = false := by
            simp [World.cell?, World.frozen?, h]
          obtain ⟨q0, q1, q2, q3⟩ := hrc
          have hbc : wr.cell? ⟨gb, 0, none⟩ = some (.slice (some ⟨g1, 0, none⟩) (N + 1) c1) ∧ wr.cell? ⟨gb, 1, none⟩ = some (.slice (some ⟨ga, 0, none⟩) j j) := by
            have h := hbx.out
            simp [World.cell?, h]
          obtain ⟨b0, b1⟩ := hbc
          have hz : Hid (((wr.setCell ⟨w.heap.size, 0, none⟩ (.slice (some ⟨g1, 0, none⟩) (N + 1) c1)).setCell ⟨w.heap.size, 1, none⟩ (.slice (some ⟨ga, 0, none⟩) j j)).heap[w.heap.size]? = some (.cells #[.slice (some ⟨g1, 0, none⟩) (N + 1) c1, .slice (some ⟨ga, 0, none⟩) j j] 71)) := by
            refine hidden ?_
            simp [World.setCell, Array.getElem?_modify, h]
          have hzc : ((wr.setCell ⟨w.heap.size, 0, none⟩ (.slice (some ⟨g1, 0, none⟩) (N + 1) c1)).setCell ⟨w.heap.size, 1, none⟩ (.slice (some ⟨ga, 0, none⟩) j j)).cell? ⟨w.heap.size, 0, none⟩ = some (.slice (some ⟨g1, 0, none⟩) (N + 1) c1) ∧ ((wr.setCell ⟨w.heap.size, 0, none⟩ (.slice (some ⟨g1, 0, none⟩) (N + 1) c1)).setCell ⟨w.heap.size, 1, none⟩ (.slice (some ⟨ga, 0, none⟩) j j)).cell? ⟨w.heap.size, 1, none⟩ = some (.slice (some ⟨ga, 0, none⟩) j j) := by
            have h := hz.out
            simp [World.cell?, h]
          obtain ⟨z0, z1⟩ := hzc
          have hts : Hid (ts = (sorted D l (N + 1)).map fun p => xs.getD p Ar.none) := by
            have h := hla.out
            rw [List.take_of_length_le (by rw [hll.out]; exact Nat.le_refl _)] at h
            exact laidA_all hD1.out hpm.out htl.out h
          have hS9 : Hid (wr.ownsRow w.heap.size 3 1 (.slice (some ⟨g1, 0, none⟩) (N + 1) c1) (N + 1) (cellsN (N + 1) (Go.Proofs.YtfkcopokeofjoaaGreat.below D (List.range j)))) := by
            have h := own_le2 hsr.out (show w.heap.size ≤ B2 from hwrl)
            have e : cellsN (N + 1) (Go.Proofs.YtfkcopokeofjoaaGreat.below D (List.range j)) = ((List.range (N + 1)).map fun i => ((Go.Proofs.YtfkcopokeofjoaaGreat.below D (List.range j) i : Nat) : Int)).map (Value.int .i64) := by simp [cellsN]
            rw [e]
            exact h
          clear h hsr hO hbx hRr hla hnr
          go_wp2
          have hA9 : Hid (wr.ownsRow w.heap.size 78 4 (.slice (some ⟨ga, 0, none⟩) j j) j (arR.flat ((sorted D l (N + 1)).map fun p => xs.getD p Ar.none))) := by
            have h := hA.out
            rw [hts.out] at h
            exact h
          exact bodyPost_ret (results_cell_row rfl _ _ w.heap.size _ _ _ _ rfl hz.out Tryz.underlying71 rfl (by kernel_rfl)) rfl ⟨l, _, _, rfl, hol.out, ownsRow_setCell_other (ownsRow_setCell_other hS9.out (a := ⟨w.heap.size, 0, none⟩) (by simp [Value.ownBlock]; omega) _) (a := ⟨w.heap.size, 1, none⟩) (by simp [Value.ownBlock]; omega) _,
            ownsRow_setCell_other (ownsRow_setCell_other hA9.out (a := ⟨w.heap.size, 0, none⟩) (by simp [Value.ownBlock]; omega) _) (a := ⟨w.heap.size, 1, none⟩) (by simp [Value.ownBlock]; omega) _, (hBz.out.setCell (p := ⟨w.heap.size, 0, none⟩) (Nat.le_refl _) _).setCell (p := ⟨w.heap.size, 1, none⟩) (Nat.le_refl _) _⟩
end Go.Proofs.YtfkcopokeofjoaaGreat
