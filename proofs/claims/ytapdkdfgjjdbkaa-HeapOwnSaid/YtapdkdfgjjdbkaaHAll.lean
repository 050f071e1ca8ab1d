/-
  ITEMS WITH THEIR ROWS: a slice of them in memory of its own; one item, and its row, cloned.
-/
import Derived.Test.YtapdkdfgjjdbkaaIOrd
import Derived.Test.YtapdkdfgjjdbkaaSl
import Derived.Test.YtapdkdfgjjdbkaaItems
namespace Go.Proofs.Ytapdkdfgjjdbkaa
open Go.ChangeShapes Go.WideShapes Go.ChangeAt Go.RowKit

abbrev Pr := It × Value
def ints (l : List Int) : List Value := l.map (Value.int .i64)
def encP (p : Pr) : List Value := cellsI p.1 p.2
def encs (ds : List Pr) : List Value := ds.flatMap encP
theorem encs_len : ∀ ds : List Pr, (encs ds).length = ds.length * 4
  | [] => rfl
  | p :: ds => by
    show (encP p ++ encs ds).length = _
    rw [List.length_append, encs_len ds]
    simp [encP, cellsI]; omega
theorem encs_app (a b : List Pr) : encs (a ++ b) = encs a ++ encs b := by simp [encs]
theorem encs_at : ∀ (ds : List Pr) (j : Nat) (p : Pr), ds[j]? = some p → (encs ds)[j * 4]? = some (.int .i64 p.1.c) ∧ (encs ds)[j * 4 + 1]? = some p.2 ∧ (encs ds)[j * 4 + 2]? = some (.int .i64 p.1.p) ∧ (encs ds)[j * 4 + 3]? = some (.int .i64 p.1.r)
  | [], j, p, h => by simp at h
  | q :: ds, 0, p, h => by
    simp at h; subst h
    simp [encs, encP, cellsI]
  | q :: ds, j + 1, p, h => by
    have ih := encs_at ds j p (by simpa using h)
    have e : ∀ t, (encs (q :: ds))[(j + 1) * 4 + t]? = (encs ds)[j * 4 + t]? := fun t => by
      show (encP q ++ encs ds)[_]? = _
      rw [List.getElem?_append_right (by simp [encP, cellsI]; omega)]
      congr 1
      simp [encP, cellsI]; omega
    exact ⟨(e 0).trans ih.1, (e 1).trans ih.2.1, (e 2).trans ih.2.2.1, (e 3).trans ih.2.2.2⟩
/-- Every row lies somewhere. -/
def Rowed (w : World) (ds : List Pr) : Prop := ∀ p ∈ ds, Sl w p.2 (ints p.1.l)
theorem Rowed.below {w w' : World} {ds : List Pr} (h : Rowed w ds) (hB : Below w.heap.size w w') : Rowed w' ds := fun p hp => (h p hp).below hB
/-- A slice whose elements are these items, their rows somewhere. -/
def RowP (w : World) (v : Value) (ds : List Pr) : Prop := ∃ a cap, v = .slice a ds.length cap ∧ (ds = [] ∨ ∃ b off, a = some ⟨b, off, none⟩ ∧ b < w.heap.size ∧
  ∀ j p, ds[j]? = some p → w.cell? ⟨b, off + j * 4, none⟩ = some (.int .i64 p.1.c) ∧ w.cell? ⟨b, off + j * 4 + 1, none⟩ = some p.2 ∧ w.cell? ⟨b, off + j * 4 + 2, none⟩ = some (.int .i64 p.1.p) ∧ w.cell? ⟨b, off + j * 4 + 3, none⟩ = some (.int .i64 p.1.r)) ∧ Rowed w ds
theorem RowP.below {w w' : World} {v : Value} {ds : List Pr} (h : RowP w v ds) (hB : Below w.heap.size w w') : RowP w' v ds := by
  obtain ⟨a, cap, h1, h2, h3⟩ := h
  refine ⟨a, cap, h1, ?_, h3.below hB⟩
  rcases h2 with h2 | ⟨b, off, e, hb, h⟩
  · exact .inl h2
  · refine .inr ⟨b, off, e, Nat.lt_of_lt_of_le hb hB.size, fun j p hp => ?_⟩
    obtain ⟨c0, c1, c2, c3⟩ := h j p hp
    exact ⟨(hB.cell (p := ⟨b, _, none⟩) hb).trans c0, (hB.cell (p := ⟨b, _, none⟩) hb).trans c1, (hB.cell (p := ⟨b, _, none⟩) hb).trans c2, (hB.cell (p := ⟨b, _, none⟩) hb).trans c3⟩
theorem rowP_of {w : World} {base : Nat} {e : TypeId} {v : Value} {ds : List Pr} (h : w.ownsRow base e 4 v ds.length (encs ds)) (hr : Rowed w ds) : RowP w v ds := by
  rcases h.2 with ⟨h1, h2⟩ | ⟨g, cap, cur, h1, _, h3, _, _, h6, h7⟩
  · exact ⟨none, 0, by rw [h1, h2], .inl (List.length_eq_zero_iff.1 h2), hr⟩
  · refine ⟨_, cap, h1, .inr ⟨g, 0, rfl, (Array.getElem?_eq_some_iff.1 h3).1, fun j p hp => ?_⟩, hr⟩
    have hj : j < ds.length := (List.getElem?_eq_some_iff.1 hp).1
    obtain ⟨c0, c1, c2, c3⟩ := encs_at ds j p hp
    have key : ∀ t x, t < ds.length * 4 → (encs ds)[t]? = some x → w.cell? ⟨g, 0 + t, none⟩ = some x := fun t x ht hx => by
      rw [← h7, List.getElem?_take_of_lt ht, Array.getElem?_toList] at hx
      simp only [World.cell?, h3, Nat.zero_add]
      exact hx
    refine ⟨key _ _ (by omega) c0, ?_, ?_, ?_⟩
    · rw [Nat.add_assoc]; exact key _ _ (by omega) c1
    · rw [Nat.add_assoc]; exact key _ _ (by omega) c2
    · rw [Nat.add_assoc]; exact key _ _ (by omega) c3

theorem owns_base {w : World} {B B' t s n : Nat} {v : Value} {xs : List Value} (h : w.ownsRow B t s v n xs) (hb : B' ≤ B) : w.ownsRow B' t s v n xs := by
  obtain ⟨hl, h⟩ := h
  refine ⟨hl, ?_⟩
  rcases h with h | ⟨g, cap, cur, h1, h2, h3⟩
  · exact .inl h
  · exact .inr ⟨g, cap, cur, h1, Nat.le_trans hb h2, h3⟩
theorem owns_setO {w : World} {b : Nat} {cs : Array Value} {tb : TypeId} {B te s n : Nat} {v : Value} {xs : List Value} (h : w.ownsRow B te s v n xs) (hb : w.heap[b]? = some (.cells cs tb)) (ht : te ≠ tb) (j : Nat) (u : Value) :
    (w.setCell ⟨b, j, none⟩ u).ownsRow B te s v n xs := by
  obtain ⟨hl, h⟩ := h
  refine ⟨hl, ?_⟩
  rcases h with h | ⟨g, cap, cur, h1, h2, h3, h4⟩
  · exact .inl h
  · refine .inr ⟨g, cap, cur, h1, h2, ?_, h4⟩
    have hne : b ≠ g := fun e => by
      subst e
      rw [h3] at hb
      injection hb with hb
      injection hb with _ hb _
      exact ht hb
    exact (heap_oI hne).trans h3
set_option maxRecDepth 20000 in
set_option maxHeartbeats 800000 in
theorem clone_c (nv : Value) (l : List Int) (w : World) (h : Sl w nv (ints l)) (hl : l.length ≤ 1000) :
    Calls Try.prog 33 #[nv] w fun e w' =>
      ∃ nv', e = .returned nv' ∧ w'.ownsRow w.heap.size 3 1 nv' l.length (ints l) ∧ Below w.heap.size w w' := by
  obtain ⟨i0, hi, hz0, hz1, hz2⟩ := info_parts infoInt
  have hsl := hiddenI h
  obtain ⟨a, cap, rfl, hcap, hnil, hspot, hrow⟩ := h
  cases a with
  | none =>
    obtain rfl := hnil rfl
    have hz : (ints l).length = 0 := by omega
    have hz2 : l = [] := by
      have : l.length = 0 := by simpa [ints] using hz
      exact List.length_eq_zero_iff.1 this
    subst hz2
    clear hsl hrow hspot hnil hcap
    simp only [ints, List.map_nil, List.length_nil] at *
    have hne : ∀ x : World, Sem.run Try.prog (binOp BinOp.eql 22 (.slice none 0 0) (.slice none 0 0)) x = .ok (.bool true) x := fun x => by rfl
    go_enter Try.func33, Try.ntmps33
    go_wp2
    go_ret
    exact ⟨_, rfl, World.ownsRow_nil .., Below.refl _ _⟩
  | some p =>
    obtain ⟨g, og, sp⟩ := p
    obtain rfl : sp = none := hspot _ rfl
    have hlen : (ints l).length = l.length := by simp [ints]
    rw [hlen] at hsl hcap ⊢
    replace hlen := hiddenI hlen
    have hne : ∀ x : World, Sem.run Try.prog (binOp BinOp.eql 22 (.slice (some ⟨g, og, none⟩) l.length cap) (.slice none 0 0)) x = .ok (.bool false) x := fun x => by rfl
    have hone : ∀ u ∈ ints l, u.oneCell' = true := fun u hu => by
      obtain ⟨z, _, rfl⟩ := List.mem_map.1 hu
      rfl
    go_enter Try.func33, Try.ntmps33
    have hw := (Below.refl w.heap.size w).alloc (Nat.le_refl _) (.cells #[] 3)
    have hown := World.ownsRow_made (base := w.heap.size) (e := 3) (size := 1) w #[] 0 (Nat.le_refl _) (by unfold maxLen; omega) rfl
    have hsz : w.heap.size ≤ (w.alloc (.cells #[] 3)).heap.size := hw.size
    replace hw := hiddenI hw
    replace hown := hiddenI hown
    replace hsz := hiddenI hsz
    clear hrow hspot hnil
    go_wp2_with (at_builtin; refine wpList_app rfl _ _ 22 rfl w.heap.size 3 i0 (.int .i64 0) 8 Try.underlying22 hi hz0 hz1 hz2 rfl (by rfl) hown.out (by rfl) (hsl.out.below hw.out) hone (by rw [hlen.out]; unfold maxLen; omega) (by rw [hlen.out]; omega) hsz.out ?_; intro v1 w1 hown1 hgrow1 hsm1)
    have hB1 := hiddenI (hw.out.grown hgrow1 hsz.out (fun j hj => (hown.out.lt j hj).1))
    have hfin : Hid (w1.ownsRow w.heap.size 3 1 v1 l.length (ints l)) := by
      have h9 := hown1
      rw [hlen.out] at h9
      show World.ownsRow _ _ _ _ _ _ _
      simpa using h9
    clear hown1 hgrow1 hsm1 hw hown hsz hsl
    go_wp2
    go_ret
    exact ⟨_, rfl, hfin.out, hB1.out⟩
end Go.Proofs.Ytapdkdfgjjdbkaa
/-
  ONE ITEM OWNED: heap.own, by contract.
-/
namespace Go.Proofs.Ytapdkdfgjjdbkaa
open Go.ChangeShapes Go.WideShapes Go.ChangeAt Go.RowKit

set_option maxHeartbeats 1600000 in
theorem own_c (y : It) (nv : Value) (w : World) (hv : Sl w nv (ints y.l)) (hz : y.l.length ≤ 1000) : Calls Try.prog 23 #[itV y nv] w fun e w' =>
    ∃ nv', e = .returned (itV y nv') ∧ w'.ownsRow w.heap.size 3 1 nv' y.l.length (ints y.l) ∧ Below w.heap.size w w' := by
  obtain ⟨c, l, p, r⟩ := y
  simp only [itV] at hv hz ⊢
  have hB2 : Below w.heap.size w ((w.alloc (.cells #[.int .i64 c, nv, .int .i64 p, .int .i64 r] 24)).alloc (.cells #[.int .i64 0, .slice none 0 0, .int .i64 0, .int .i64 0] 24)) :=
    ((Below.refl _ _).alloc (Nat.le_refl _) _).alloc (by show _ ≤ (w.heap.push _).size; simp) _
  have hfew := clone_c nv l _ (hv.below hB2) hz
  have hX0 := hiddenI (heap2_old w (.cells #[.int .i64 c, nv, .int .i64 p, .int .i64 r] 24) (.cells #[.int .i64 0, .slice none 0 0, .int .i64 0, .int .i64 0] 24))
  have hR0 := hiddenI (heap2_new w (.cells #[.int .i64 c, nv, .int .i64 p, .int .i64 r] 24) (.cells #[.int .i64 0, .slice none 0 0, .int .i64 0, .int .i64 0] 24))
  have hs2 : ((w.alloc (.cells #[.int .i64 c, nv, .int .i64 p, .int .i64 r] 24)).alloc (.cells #[.int .i64 0, .slice none 0 0, .int .i64 0, .int .i64 0] 24)).heap.size = w.heap.size + 2 := by
    show ((w.heap.push _).push _).size = _; simp
  replace hB2 := hiddenI hB2
  replace hs2 := hiddenI hs2
  clear hv hz
  go_enter Try.func23, Try.ntmps23
  go_wp2_with fail
  refine hfew.mono ?_
  rintro e w1 ⟨nv', rfl, hown, hB⟩
  obtain ⟨a5, c5, rfl, -⟩ := holds_of_owns hown
  generalize hn5 : (ints l).length = n5 at *
  replace hn5 := hiddenI hn5
  have hX := (hB.block _ (by rw [hs2.out]; omega)).trans hX0.out
  have hR := (hB.block _ (by rw [hs2.out]; omega)).trans hR0.out
  have hBw : Below w.heap.size w w1 := hB2.out.trans (hB.mono (by rw [hs2.out]; omega))
  obtain ⟨⟨x0, x1, x2, x3⟩, z0, z1, z2, z3⟩ := box4 hX
  obtain ⟨⟨r0, r1, r2, r3⟩, y0, y1, y2, y3⟩ := box4 hR
  have hfinH : Hid ((((((w1.setCell ⟨w.heap.size, 1, none⟩ (.slice a5 n5 c5)).setCell ⟨w.heap.size + 1, 0, none⟩ (.int .i64 c)).setCell ⟨w.heap.size + 1, 1, none⟩ (.slice a5 n5 c5)).setCell ⟨w.heap.size + 1, 2, none⟩ (.int .i64 p)).setCell ⟨w.heap.size + 1, 3, none⟩ (.int .i64 r)).heap[w.heap.size + 1]? = some (.cells #[.int .i64 c, (.slice a5 n5 c5), .int .i64 p, .int .i64 r] 24)) :=
    heap_set4 ((heap_oI (by show w.heap.size ≠ _; omega)).trans hR) _ _ _ _
  have hBf : Hid (Below w.heap.size w (((((w1.setCell ⟨w.heap.size, 1, none⟩ (.slice a5 n5 c5)).setCell ⟨w.heap.size + 1, 0, none⟩ (.int .i64 c)).setCell ⟨w.heap.size + 1, 1, none⟩ (.slice a5 n5 c5)).setCell ⟨w.heap.size + 1, 2, none⟩ (.int .i64 p)).setCell ⟨w.heap.size + 1, 3, none⟩ (.int .i64 r))) :=
    ((((hBw.setCell (Nat.le_refl _) _).setCell (Nat.le_succ _) _).setCell (Nat.le_succ _) _).setCell (Nat.le_succ _) _).setCell (Nat.le_succ _) _
  have hnf : Hid (World.ownsRow (((((w1.setCell ⟨w.heap.size, 1, none⟩ (.slice a5 n5 c5)).setCell ⟨w.heap.size + 1, 0, none⟩ (.int .i64 c)).setCell ⟨w.heap.size + 1, 1, none⟩ (.slice a5 n5 c5)).setCell ⟨w.heap.size + 1, 2, none⟩ (.int .i64 p)).setCell ⟨w.heap.size + 1, 3, none⟩ (.int .i64 r)) w.heap.size 3 1 (.slice a5 n5 c5) l.length (ints l)) := by
    have hown2 := hown
    rcases hown2.2 with ⟨h1, h2⟩ | ⟨g, cap, cur, h1, h2, h3, h4, h5, h6, h7⟩
    · exact ⟨by simp [ints], .inl ⟨h1, h2⟩⟩
    · rw [hs2.out] at h2
      have ho : ∀ (b : Nat) (v : Value) (j : Nat) (x : World), b ≠ g → (x.setCell ⟨b, j, none⟩ v).heap[g]? = x.heap[g]? := fun b v j x hb => heap_oI hb
      refine ⟨by simp [ints], .inr ⟨g, cap, cur, h1, by omega, ?_, h4, h5, h6, h7⟩⟩
      rw [ho _ _ _ _ (by omega), ho _ _ _ _ (by omega), ho _ _ _ _ (by omega), ho _ _ _ _ (by omega), ho _ _ _ _ (by omega)]
      exact h3
  clear hX0 hR0 hB hX hR hBw hown hfew hs2 hB2
  obtain ⟨R, hRe⟩ : ∃ R, R = w.heap.size + 1 := ⟨_, rfl⟩
  obtain ⟨X, hXe⟩ : ∃ X, X = w.heap.size := ⟨_, rfl⟩
  have n1 : X ≠ R := by omega
  have n2 : R ≠ X := by omega
  rw [← hXe] at x0 x1 x2 x3 z0 z1 z2 z3
  rw [← hRe] at r0 r1 r2 r3 y0 y1 y2 y3
  rw [← hRe, ← hXe]
  replace hRe := hiddenI hRe
  replace hXe := hiddenI hXe
  go_wp2
  replace hfinH := hfinH.out
  replace hBf := hBf.out
  replace hnf := hnf.out
  rw [← hRe.out, ← hXe.out] at hfinH hBf hnf
  refine bodyPost_ret (results_cell_row rfl _ _ R _ _ _ _ rfl hfinH Try.underlying24 rfl (by kernel_rfl)) rfl ⟨.slice a5 n5 c5, rfl, ?_, ?_⟩
  · rw [← hXe.out]; exact hnf
  · rw [hXe.out] at hBf ⊢
    exact hBf
end Go.Proofs.Ytapdkdfgjjdbkaa
/-
  ITEMS COPIED, EACH WITH ITS ROW: heap.ownAll, by contract.
-/
namespace Go.Proofs.Ytapdkdfgjjdbkaa
open Go.ChangeShapes Go.WideShapes Go.ChangeAt Go.RowKit

def pr0 : Pr := (It.none, .slice none 0 0)
theorem encs_cons (p : Pr) (ds : List Pr) : encs (p :: ds) = encP p ++ encs ds := rfl
theorem encs_get : ∀ (L : List Pr) (j r : Nat), j < L.length → r < 4 → (encs L)[j * 4 + r]? = (encP (L.getD j pr0))[r]?
  | q :: L, 0, r, _, hr => by
    rw [encs_cons, Nat.zero_mul, Nat.zero_add, List.getElem?_append_left (by simpa [encP, cellsI] using hr)]
    rfl
  | q :: L, j + 1, r, hj, hr => by
    have ih := encs_get L j r (by simpa using hj) hr
    have hl : (encP q).length = 4 := rfl
    rw [encs_cons, List.getElem?_append_right (by rw [hl]; omega), hl, show (j + 1) * 4 + r - 4 = j * 4 + r by omega, ih]
    rfl
theorem encs_set : ∀ (L : List Pr) (k : Nat) (p : Pr), k < L.length → ((((encs L).set (k * 4) (.int .i64 p.1.c)).set (k * 4 + 1) p.2).set (k * 4 + 2) (.int .i64 p.1.p)).set (k * 4 + 3) (.int .i64 p.1.r) = encs (L.set k p)
  | q :: L, 0, p, _ => rfl
  | q :: L, k + 1, p, h => by
    have ih := encs_set L k p (by simpa using h)
    have hl : (encP q).length = 4 := rfl
    have key : ∀ (l : List Value) (t : Nat) (v : Value), (encP q ++ l).set ((k + 1) * 4 + t) v = encP q ++ l.set (k * 4 + t) v := fun l t v => by
      rw [List.set_append_right _ _ (by rw [hl]; omega), hl, show (k + 1) * 4 + t - 4 = k * 4 + t by omega]
    have key0 : ∀ (l : List Value) (v : Value), (encP q ++ l).set ((k + 1) * 4) v = encP q ++ l.set (k * 4) v := fun l v => key l 0 v
    rw [encs_cons, key0, key, key, key, ih]
    rfl
theorem made_encs (n : Nat) : (madeCells #[.int .i64 0, .slice none 0 0, .int .i64 0, .int .i64 0] (n * 4)).toList = encs (List.replicate n pr0) := by
  apply List.ext_getElem?
  intro t
  by_cases ht : t < n * 4
  · have hj : t / 4 < (List.replicate n pr0).length := by simp; omega
    have h := encs_get (List.replicate n pr0) (t / 4) (t % 4) hj (by omega)
    rw [show t / 4 * 4 + t % 4 = t by omega] at h
    rw [h]
    have e : (List.replicate n pr0).getD (t / 4) pr0 = pr0 := by
      have : t / 4 < n := by simpa using hj
      simp [List.getD, this]
    rw [e]
    have h4 : t % 4 = 0 ∨ t % 4 = 1 ∨ t % 4 = 2 ∨ t % 4 = 3 := by omega
    rcases h4 with h4 | h4 | h4 | h4 <;> simp [madeCells, ht, h4, pr0, encP, cellsI, It.none]
  · rw [List.getElem?_eq_none (by simp [madeCells]; omega), List.getElem?_eq_none (by rw [encs_len]; simp; omega)]
/-- Items in a row of their own, each with a row of its own. -/
structure HRow (B : Nat) (v : Value) (L : List Pr) (k : Nat) (ys : List It) (x : World) : Prop where
  row : x.ownsRow B 24 4 v L.length (encs L)
  its : ∀ j, j < k → (L.getD j pr0).1 = ys.getD j It.none ∧ x.ownsRow B 3 1 (L.getD j pr0).2 (ys.getD j It.none).l.length (ints (ys.getD j It.none).l)
theorem HRow.step {B : Nat} {v : Value} {L : List Pr} {k : Nat} {ys : List It} {x z : World} (h : HRow B v L k ys x) (hB : Below x.heap.size x z) : HRow B v L k ys z :=
  ⟨owns_keep h.row hB, fun j hj => ⟨(h.its j hj).1, owns_keep (h.its j hj).2 hB⟩⟩
/-- One item more is laid. -/
theorem HRow.put {B g n : Nat} {L : List Pr} {k : Nat} {ys : List It} {x : World} {nv : Value} (h : HRow B (.slice (some ⟨g, 0, none⟩) n n) L k ys x) (hn : L.length = n) (hk : k < n) (hr : x.ownsRow B 3 1 nv (ys.getD k It.none).l.length (ints (ys.getD k It.none).l)) :
    HRow B (.slice (some ⟨g, 0, none⟩) n n) (L.set k (ys.getD k It.none, nv)) (k + 1) ys ((((x.setCell ⟨g, k * 4, none⟩ (.int .i64 (ys.getD k It.none).c)).setCell ⟨g, k * 4 + 1, none⟩ nv).setCell ⟨g, k * 4 + 2, none⟩ (.int .i64 (ys.getD k It.none).p)).setCell ⟨g, k * 4 + 3, none⟩ (.int .i64 (ys.getD k It.none).r)) := by
  have h0 := h.row
  rw [hn] at h0
  have s0 := (h0.stored (k * 4) (.int .i64 (ys.getD k It.none).c)).1
  have s1 := (s0.stored (k * 4 + 1) nv).1
  have s2 := (s1.stored (k * 4 + 2) (.int .i64 (ys.getD k It.none).p)).1
  have s3 := (s2.stored (k * 4 + 3) (.int .i64 (ys.getD k It.none).r)).1
  have he := encs_set L k (ys.getD k It.none, nv) (by omega)
  have keep : ∀ {v : Value} {m : Nat} {xs : List Value}, x.ownsRow B 3 1 v m xs → ((((x.setCell ⟨g, k * 4, none⟩ (.int .i64 (ys.getD k It.none).c)).setCell ⟨g, k * 4 + 1, none⟩ nv).setCell ⟨g, k * 4 + 2, none⟩ (.int .i64 (ys.getD k It.none).p)).setCell ⟨g, k * 4 + 3, none⟩ (.int .i64 (ys.getD k It.none).r)).ownsRow B 3 1 v m xs := fun {v m xs} h => by
    have hb : ∀ {z : World} {xs : List Value}, z.ownsRow B 24 4 (.slice (some ⟨g, 0, none⟩) n n) n xs → ∃ cs, z.heap[g]? = some (.cells cs 24) := fun {z xs} hz => by
      rcases hz.2 with ⟨e, _⟩ | ⟨g', cap, cur, e, _, hc, _⟩
      · cases e
      · simp only [Value.slice.injEq, Option.some.injEq, Addr.mk.injEq, and_true] at e
        obtain ⟨rfl, _⟩ := e
        exact ⟨cur, hc⟩
    obtain ⟨c0, b0⟩ := hb h0
    obtain ⟨c1, b1⟩ := hb s0
    obtain ⟨c2, b2⟩ := hb s1
    obtain ⟨c3, b3⟩ := hb s2
    exact owns_setO (owns_setO (owns_setO (owns_setO h b0 (by decide) _ _) b1 (by decide) _ _) b2 (by decide) _ _) b3 (by decide) _ _
  refine ⟨by rw [← he, List.length_set, hn]; exact s3, fun j hj => ?_⟩
  by_cases hjk : j = k
  · subst hjk
    have e : (L.set j (ys.getD j It.none, nv)).getD j pr0 = (ys.getD j It.none, nv) := by simp [List.getD, show j < L.length by omega]
    rw [e]
    exact ⟨rfl, keep hr⟩
  · have e : (L.set k (ys.getD k It.none, nv)).getD j pr0 = L.getD j pr0 := by simp [List.getD, Ne.symm hjk]
    rw [e]
    exact ⟨(h.its j (by omega)).1, keep (h.its j (by omega)).2⟩
theorem own_cell {x : World} {B e s g n cap : Nat} {xs : List Value} (h : x.ownsRow B e s (.slice (some ⟨g, 0, none⟩) n cap) n xs) {j : Nat} {u : Value} (hj : xs[j]? = some u) : x.cell? ⟨g, j, none⟩ = some u := by
  obtain ⟨hl, h⟩ := h
  rcases h with ⟨e, _⟩ | ⟨g', cap', cur, e, _, hc, _, _, _, htk⟩
  · cases e
  · simp only [Value.slice.injEq, Option.some.injEq, Addr.mk.injEq, and_true] at e
    obtain ⟨rfl, _⟩ := e
    have hlt := (List.getElem?_eq_some_iff.1 hj).1
    rw [hl] at hlt
    rw [← htk, List.getElem?_take_of_lt hlt, Array.getElem?_toList] at hj
    simp only [World.cell?, hc]
    exact hj
set_option maxHeartbeats 3200000 in
set_option maxRecDepth 100000 in
theorem ownall_c (v : Value) (ds : List Pr) (w : World) (hv : RowP w v ds) (hn : ds.length ≤ 1000) (hl : ∀ p ∈ ds, p.1.l.length ≤ 1000) :
    Calls Try.prog 20 #[v] w fun e w' => e = .returned (.slice (some ⟨w.heap.size, 0, none⟩) ds.length ds.length) ∧ ∃ L, L.length = ds.length ∧ HRow w.heap.size (.slice (some ⟨w.heap.size, 0, none⟩) ds.length ds.length) L ds.length (ds.map (·.1)) w' ∧ Below w.heap.size w w' := by
  obtain ⟨a, cap, rfl, hcells, hrows⟩ := hv
  obtain ⟨i0, hi, hz0, hz1, hz2⟩ := info_parts infoIt
  replace hcells := hiddenI hcells
  replace hrows := hiddenI hrows
  replace hl := hiddenI hl
  go_enter Try.func20, Try.ntmps20
  go_wp2_with (refine wpList_make_full _ rfl _ _ 31 rfl w.heap.size 24 i0 (.agg #[.int .i64 0, .slice none 0 0, .int .i64 0, .int .i64 0]) 4 Try.underlying31 hi hz0 hz1 .i64 .i64 _ _ ds.length rfl rfl ?d1 ?d2 ?d3 ?d4 ?d5 ?_)
  case d1 => rfl
  case d2 => rfl
  case d3 => rw [hz2]; omega
  case d4 => unfold maxLen; omega
  case d5 => omega
  intro w0 hown0 hgrow0
  have hB0 : Hid (Below w.heap.size w w0) := (Below.refl _ _).grown hgrow0 (Nat.le_refl _) (fun j hj => by cases hj)
  have hR0 : Hid (HRow w.heap.size (.slice (some ⟨w.heap.size, 0, none⟩) ds.length ds.length) (List.replicate ds.length pr0) 0 (ds.map (·.1)) w0) := by
    refine ⟨?_, fun j hj => by omega⟩
    rw [List.length_replicate, ← made_encs]
    exact hown0
  clear hown0 hgrow0
  go_wp2_with fail
  go_loopw [11] (fun i x => ∃ (k : Nat) (L : List Pr), k ≤ ds.length ∧ L.length = ds.length ∧ i = .int .i64 k ∧ Hid (HRow w.heap.size (.slice (some ⟨w.heap.size, 0, none⟩) ds.length ds.length) L k (ds.map (·.1)) x) ∧ Hid (Below w.heap.size w x)) (fun i _ => ds.length - (intOf i).toNat)
  case atStart => exact ⟨0, _, Nat.zero_le _, List.length_replicate, rfl, hR0, hB0⟩
  case round =>
    clear hR0 hB0
    obtain ⟨k, L, hk, hL, rfl, hR, hB⟩ := hrel
    replace hL := hiddenI hL
    by_cases hlt : k < ds.length
    · have hlt' : (k : Int) < (ds.length : Int) := by omega
      have hk9 : (k : Int) ≤ 1000 := by omega
      obtain ⟨b5, o5, rfl, hb5, hc5⟩ : ∃ b off, a = some ⟨b, off, none⟩ ∧ b < w.heap.size ∧ ∀ j p, ds[j]? = some p → w.cell? ⟨b, off + j * 4, none⟩ = some (.int .i64 p.1.c) ∧ w.cell? ⟨b, off + j * 4 + 1, none⟩ = some p.2 ∧ w.cell? ⟨b, off + j * 4 + 2, none⟩ = some (.int .i64 p.1.p) ∧ w.cell? ⟨b, off + j * 4 + 3, none⟩ = some (.int .i64 p.1.r) := by
        rcases hcells.out with h0 | h0
        · rw [h0] at hlt; simp at hlt
        · exact h0
      have hgk : ds[k]? = some ds[k] := List.getElem?_eq_getElem hlt
      obtain ⟨e0, e1, e2, e3⟩ := hc5 k _ hgk
      have hSl := hrows.out ds[k] (List.getElem_mem hlt)
      have hyl := hl.out ds[k] (List.getElem_mem hlt)
      have hys : (ds.map (·.1)).getD k It.none = ds[k].1 := by simp [List.getD, hlt]
      have hput := fun (x : World) (nv' : Value) (h : HRow w.heap.size (.slice (some ⟨w.heap.size, 0, none⟩) ds.length ds.length) L k (ds.map (·.1)) x) (hr : x.ownsRow w.heap.size 3 1 nv' ((ds.map (·.1)).getD k It.none).l.length (ints ((ds.map (·.1)).getD k It.none).l)) => h.put hL.out hlt hr
      rw [hys] at hput
      generalize ds[k] = p at *
      obtain ⟨y, nv⟩ := p
      simp only at e0 e1 e2 e3 hSl hyl hput
      obtain ⟨na, nc, rfl, hcap, hnil, hspot, hrow⟩ := id hSl
      obtain ⟨yc, yl, yp, yr⟩ := y
      simp only at e0 e1 e2 e3 hSl hyl hput
      have f0 := (hB.out.cell (p := ⟨b5, o5 + k * 4, none⟩) (by exact hb5)).trans e0
      have f1 := (hB.out.cell (p := ⟨b5, o5 + k * 4 + 1, none⟩) (by exact hb5)).trans e1
      have f2 := (hB.out.cell (p := ⟨b5, o5 + k * 4 + 2, none⟩) (by exact hb5)).trans e2
      have f3 := (hB.out.cell (p := ⟨b5, o5 + k * 4 + 3, none⟩) (by exact hb5)).trans e3
      have hBX : Below wr.heap.size wr (wr.alloc (.cells #[.int .i64 yc, .slice na (ints yl).length nc, .int .i64 yp, .int .i64 yr] 24)) := (Below.refl _ _).alloc (Nat.le_refl _) _
      have how := own_c ⟨yc, yl, yp, yr⟩ (.slice na (ints yl).length nc) (wr.alloc (.cells #[.int .i64 yc, .slice na (ints yl).length nc, .int .i64 yp, .int .i64 yr] 24)) ((hSl.below hB.out).below hBX) hyl
      simp only [itV] at how
      have hX : (wr.alloc (.cells #[.int .i64 yc, .slice na (ints yl).length nc, .int .i64 yp, .int .i64 yr] 24)).heap[wr.heap.size]? = some (.cells #[.int .i64 yc, .slice na (ints yl).length nc, .int .i64 yp, .int .i64 yr] 24) := heap_alloc_new _ _
      obtain ⟨⟨b0, b1, b2, b3⟩, -⟩ := box4 hX
      have hcnt : (ints yl).length = yl.length := by simp [ints]
      generalize (ints yl).length = yn at *
      replace hcnt := hiddenI hcnt
      replace hSl := hiddenI hSl
      replace hX := hiddenI hX
      replace hBX := hiddenI hBX
      replace hcap := hiddenI hcap
      clear e0 e1 e2 e3 hc5 hgk hys hnil hspot hrow
      go_wp2_with fail
      refine how.mono ?_
      rintro e w2 ⟨nv', rfl, hown2, hB2⟩
      obtain ⟨a5, c5, rfl⟩ : ∃ a c, nv' = .slice a yl.length c := by
        rcases hown2.2 with ⟨rfl, h0⟩ | ⟨g, cap, cur, rfl, _⟩
        · exact ⟨_, _, by rw [h0]⟩
        · exact ⟨_, _, rfl⟩
      have hR2 := (hR.out.step hBX.out).step hB2
      have hBw : Hid (Below w.heap.size w w2) := (hB.out.trans (hBX.out.mono hB.out.size)).trans (hB2.mono (hB.out.trans (hBX.out.mono hB.out.size)).size)
      have hrow2 := hR2.row
      rw [hL.out] at hrow2
      have g0 := own_cell hrow2 (encs_get L k 0 (by rw [hL.out]; exact hlt) (by decide))
      have g1 := own_cell hrow2 (encs_get L k 1 (by rw [hL.out]; exact hlt) (by decide))
      have g2 := own_cell hrow2 (encs_get L k 2 (by rw [hL.out]; exact hlt) (by decide))
      have g3 := own_cell hrow2 (encs_get L k 3 (by rw [hL.out]; exact hlt) (by decide))
      have z0 := hrow2.frozenAt (k * 4)
      have z1 := hrow2.frozenAt (k * 4 + 1)
      have z2 := hrow2.frozenAt (k * 4 + 2)
      have z3 := hrow2.frozenAt (k * 4 + 3)
      have hP := hiddenI (hput w2 (.slice a5 yl.length c5) hR2 (owns_base hown2 (show w.heap.size ≤ (wr.alloc _).heap.size by have := hB.out.size; show w.heap.size ≤ (wr.heap.push _).size; simp; omega)))
      have hBf := hiddenI ((((hBw.out.setCell (p := ⟨w.heap.size, k * 4, none⟩) (Nat.le_refl _) (.int .i64 yc)).setCell (p := ⟨w.heap.size, k * 4 + 1, none⟩) (Nat.le_refl _) (.slice a5 yl.length c5)).setCell (p := ⟨w.heap.size, k * 4 + 2, none⟩) (Nat.le_refl _) (.int .i64 yp)).setCell (p := ⟨w.heap.size, k * 4 + 3, none⟩) (Nat.le_refl _) (.int .i64 yr))
      generalize L.getD k pr0 = lp at *
      obtain ⟨⟨lc, ll, lp, lr⟩, lv⟩ := lp
      replace g0 : w2.cell? ⟨w.heap.size, k * 4, none⟩ = some (.int .i64 lc) := g0
      replace g1 : w2.cell? ⟨w.heap.size, k * 4 + 1, none⟩ = some lv := g1
      replace g2 : w2.cell? ⟨w.heap.size, k * 4 + 2, none⟩ = some (.int .i64 lp) := g2
      replace g3 : w2.cell? ⟨w.heap.size, k * 4 + 3, none⟩ = some (.int .i64 lr) := g3
      clear hrow2 hR2 hown2 hB2 how hput hBw hR hB b0 b1 b2 b3 f0 f1 f2 f3
      go_wp2
      go_roundw
      case rel => exact ⟨k + 1, _, by omega, by rw [List.length_set]; exact hL.out, by go_num, hP, hBf⟩
      case measure => simp [intOf]; omega
    · obtain rfl : k = ds.length := by omega
      have hlt' : ¬ (ds.length : Int) < (ds.length : Int) := by omega
      go_wp2
      go_ret
      exact ⟨rfl, L, hL.out, hR.out, hB.out⟩
end Go.Proofs.Ytapdkdfgjjdbkaa
