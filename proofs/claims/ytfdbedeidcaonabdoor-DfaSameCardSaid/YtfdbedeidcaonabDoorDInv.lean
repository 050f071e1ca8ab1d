/-
  AN AUTOMATON THAT IS SPOILT: what stays as it was.
-/
import Derived.Test.YtfdbedeidcaonabDoorDFew
import Derived.Test.YtfdbedeidcaonabDoorDOwn
import Derived.Test.YtfdbedeidcaonabDoorDSame3
namespace Go.Proofs.YtfdbedeidcaonabDoor
open Go.ChangeShapes Go.WideShapes Go.ChangeAt Go.RowKit

theorem cutB_fewD {s : ByteArray} {m : Nat} : cutB (cutB s m) m = cutB s m := by
  have h := cutB_size s m
  exact if_neg (by omega)
theorem Sy.few_few (p : Sy) : p.few.few = p.few := by simp [Sy.few, cutB_fewD]
theorem Df.few_few (d : Df) : d.few.few = d.few := by
  simp only [Df.few, ← List.map_take, List.take_take, Nat.min_self, List.map_map]
  congr 1
  · exact List.map_congr_left fun p _ => Sy.few_few p
  · exact List.map_congr_left fun p _ => by simp [List.take_take]
theorem Df.few_wf {d : Df} (h : d.wf) : d.few.wf := by
  obtain ⟨h1, h2, h3, h4⟩ := h
  refine ⟨by simp [Df.few]; unfold maxLen at *; omega, by simp [Df.few]; unfold maxLen at *; omega, fun l hl => ?_, by simp [Df.few]; unfold maxLen at *; omega⟩
  obtain ⟨q, hq, rfl⟩ := List.mem_map.1 hl
  have := h3 q (List.mem_of_mem_take hq)
  exact ⟨by simp; unfold maxLen at *; omega, fun z hz => this.2 z (List.mem_of_mem_take hz)⟩
theorem Df.few_len (d : Df) : d.few.ss.length ≤ 1000 ∧ d.few.ns.length ≤ 1000 ∧ d.few.ac.length ≤ 1000 ∧ ∀ l ∈ d.few.ns, l.length ≤ 1000 := by
  refine ⟨by simp [Df.few]; omega, by simp [Df.few]; omega, by simp [Df.few]; omega, fun l hl => ?_⟩
  obtain ⟨q, hq, rfl⟩ := List.mem_map.1 hl
  simp; omega
theorem Df.few_small (d : Df) : d.few.small := by
  obtain ⟨h1, h2, h3, h4⟩ := d.few_len
  refine ⟨h1, h3, h2, fun j hj => ?_⟩
  have e : d.few.ns.getD j [] = d.few.ns[j] := by simp [List.getD, hj]
  rw [e]
  exact h4 _ (List.getElem_mem hj)
/-- A row of numbers that may be spoilt. -/
def IntRow (lo hi : Nat) (x : World) (v : RwV) : Prop := v.n = 0 ∨ ∃ g cur, v.a = some ⟨g, 0, none⟩ ∧ lo ≤ g ∧ g < hi ∧ x.heap[g]? = some (.cells cur 3) ∧ v.n ≤ cur.size
def BoolRow (lo hi : Nat) (x : World) (a : Option Addr) (n : Nat) : Prop := n = 0 ∨ ∃ g cur, a = some ⟨g, 0, none⟩ ∧ lo ≤ g ∧ g < hi ∧ x.heap[g]? = some (.cells cur 4) ∧ n ≤ cur.size ∧ ∀ j, j < n → ∃ b, cur[j]? = some (.bool b)
/-- What is so while an automaton's rows of numbers are spoilt. -/
structure Spoil (y1 y3 : World) (hi : Nat) (un : Value) (vs : List RwV) (ba : Option Addr) (bn : Nat) (x : World) : Prop where
  below : Below y1.heap.size y1 x
  above : ∀ g, hi ≤ g → x.heap[g]? = y3.heap[g]?
  row : x.ownsRow y1.heap.size 28 1 un vs.length (rowR.flat vs)
  each : ∀ i, i < vs.length → IntRow y1.heap.size hi x (vs.getD i RwV.none)
  bools : BoolRow y1.heap.size hi x ba bn
theorem set_at {x : World} {b : Nat} {cs : Array Value} {t : TypeId} (h : x.heap[b]? = some (.cells cs t)) (j : Nat) (v : Value) : (x.setCell ⟨b, j, none⟩ v).heap[b]? = some (.cells (cs.setIfInBounds j v) t) := set_heap h j v
theorem set_get {x : World} {b g : Nat} (h : b ≠ g) (j : Nat) (v : Value) : (x.setCell ⟨b, j, none⟩ v).heap[g]? = x.heap[g]? := by
  simp [World.setCell, Array.getElem?_modify, h]
theorem Spoil.int {y1 y3 : World} {hi : Nat} {un : Value} {vs : List RwV} {ba : Option Addr} {bn : Nat} {x : World} (h : Spoil y1 y3 hi un vs ba bn x) {g : Nat} {cur : Array Value} (hg : x.heap[g]? = some (.cells cur 3)) (h1 : y1.heap.size ≤ g) (h2 : g < hi) (j : Nat) (v : Value) :
    Spoil y1 y3 hi un vs ba bn (x.setCell ⟨g, j, none⟩ v) := by
  refine ⟨h.below.setCell (p := ⟨g, j, none⟩) h1 _, fun g' hg' => by rw [set_get (by omega)]; exact h.above g' hg', own_set h.row hg (by decide) _ _, fun i hi => ?_, ?_⟩
  · rcases h.each i hi with h0 | ⟨g', cur', e, l1, l2, hc, hn⟩
    · exact .inl h0
    · by_cases hgg : g = g'
      · subst hgg
        rw [hg] at hc
        simp only [Option.some.injEq, Obj.cells.injEq] at hc
        obtain ⟨rfl, _⟩ := hc
        exact .inr ⟨g, _, e, l1, l2, set_at hg j v, by simpa using hn⟩
      · exact .inr ⟨g', cur', e, l1, l2, by rw [set_get hgg]; exact hc, hn⟩
  · rcases h.bools with h0 | ⟨g', cur', e, l1, l2, hc, hn, hb⟩
    · exact .inl h0
    · exact .inr ⟨g', cur', e, l1, l2, by rw [set_get (ne_types hg hc (by decide))]; exact hc, hn, hb⟩
theorem Spoil.bool {y1 y3 : World} {hi : Nat} {un : Value} {vs : List RwV} {ba : Option Addr} {bn : Nat} {x : World} (h : Spoil y1 y3 hi un vs ba bn x) {g : Nat} {cur : Array Value} (he : ba = some ⟨g, 0, none⟩) (hg : x.heap[g]? = some (.cells cur 4)) (h1 : y1.heap.size ≤ g) (h2 : g < hi) (h3 : bn ≤ cur.size) (h4 : ∀ j, j < bn → ∃ b, cur[j]? = some (.bool b)) (j : Nat) (v : Bool) :
    Spoil y1 y3 hi un vs ba bn (x.setCell ⟨g, j, none⟩ (.bool v)) := by
  refine ⟨h.below.setCell (p := ⟨g, j, none⟩) h1 _, fun g' hg' => by rw [set_get (by omega)]; exact h.above g' hg', own_set h.row hg (by decide) _ _, fun i hi => ?_, ?_⟩
  · rcases h.each i hi with h0 | ⟨g', cur', e, l1, l2, hc, hn⟩
    · exact .inl h0
    · exact .inr ⟨g', cur', e, l1, l2, by rw [set_get (ne_types hg hc (by decide))]; exact hc, hn⟩
  · refine .inr ⟨g, _, he, h1, h2, set_at hg j _, by simpa using h3, fun k hk => ?_⟩
    obtain ⟨b, hb⟩ := h4 k hk
    by_cases hjk : j = k
    · subst hjk
      exact ⟨v, by rw [Array.getElem?_setIfInBounds, if_pos rfl, if_pos (by omega)]⟩
    · exact ⟨b, by rw [Array.getElem?_setIfInBounds, if_neg hjk]; exact hb⟩
/-- An automaton in memory of its own may be spoilt. -/
theorem Spoil.start {y1 y2 y3 : World} {d : Df} {vs : List RwV} {sv un : Value} {ba : Option Addr} {bn bc : Nat} (h : OwnD y1.heap.size d vs sv un (.slice ba bn bc) y2) (h1 : Below y1.heap.size y1 y3) (h2 : Below y2.heap.size y2 y3) (hi : Nat) (hh : y2.heap.size ≤ hi) : Spoil y1 y3 hi un vs ba bn y3 := by
  have hk := h.step h2
  refine ⟨h1, fun _ _ => rfl, hk.rn.row, fun i hi' => ?_, ?_⟩
  · have hr := h.rn.each i (by rw [← h.rn.len]; exact hi')
    obtain ⟨hl, hr⟩ := hr
    rcases hr with ⟨e, e0⟩ | ⟨g, cap, cur, e, hg, hc, hn, hcm, hsz, htk⟩
    · simp only [Value.slice.injEq] at e
      exact .inl e.2.1
    · simp only [Value.slice.injEq] at e
      obtain ⟨e1, e2, e3⟩ := e
      have hlt := (Array.getElem?_eq_some_iff.1 hc).1
      exact .inr ⟨g, cur, e1, hg, by omega, (h2.block g hlt).trans hc, by rw [e2]; omega⟩
  · obtain ⟨hl, hr⟩ := h.ra
    rcases hr with ⟨e, e0⟩ | ⟨g, cap, cur, e, hg, hc, hn, hcm, hsz, htk⟩
    · simp only [Value.slice.injEq] at e
      exact .inl e.2.1
    · simp only [Value.slice.injEq] at e
      obtain ⟨e1, e2, e3⟩ := e
      have hlt := (Array.getElem?_eq_some_iff.1 hc).1
      refine .inr ⟨g, cur, e1, hg, by omega, (h2.block g hlt).trans hc, by rw [e2]; omega, fun j hj => ?_⟩
      have hf : (boolR.flat d.ac)[j]? = some (.bool (d.ac.getD j false)) := by
        have := Rec.flat_at (R := boolR) d.ac j 0 (by omega) (by decide)
        simpa [boolR] using this
      refine ⟨d.ac.getD j false, ?_⟩
      rw [← htk, List.getElem?_take] at hf
      split at hf
      · simpa using hf
      · cases hf
end Go.Proofs.YtfdbedeidcaonabDoor
