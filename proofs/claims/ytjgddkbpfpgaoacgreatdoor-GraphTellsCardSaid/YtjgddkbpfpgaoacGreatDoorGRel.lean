/-
  A GRAPH THAT IS COPIED: what lies between its parts.
-/
import Derived.Test.YtjgddkbpfpgaoacGreatDoorGraphs
import Derived.Test.YtjgddkbpfpgaoacGreatDoorSl
import Derived.Laws.Rows
import Derived.Laws.ResultCell
namespace Go.Proofs.YtjgddkbpfpgaoacGreatDoor
open Go.ChangeShapes Go.WideShapes Go.ChangeAt Go.RowKit

theorem own_shape {w : World} {B t s n : Nat} {v : Value} {xs : List Value} (h : w.ownsRow B t s v n xs) : ∃ a c, v = .slice a n c := by
  rcases h.2 with ⟨rfl, h0⟩ | ⟨g, cap, cur, rfl, _⟩
  · exact ⟨none, 0, by rw [h0]⟩
  · exact ⟨_, _, rfl⟩
theorem own0 {w : World} {B t s n : Nat} {v : Value} {xs : List Value} (h : w.ownsRow B t s v n xs) : w.ownsRow 0 t s v n xs := by
  obtain ⟨hl, h⟩ := h
  refine ⟨hl, ?_⟩
  rcases h with h | ⟨g, cap, cur, h1, _, h3⟩
  · exact .inl h
  · exact .inr ⟨g, cap, cur, h1, Nat.zero_le _, h3⟩
theorem ne_types {w : World} {b c : Nat} {x y : Array Value} {t u : TypeId} (h1 : w.heap[b]? = some (.cells x t)) (h2 : w.heap[c]? = some (.cells y u)) (ht : t ≠ u) : b ≠ c := fun e => by
  subst e
  rw [h1] at h2
  injection h2 with h2
  injection h2 with _ h2 _
  exact ht h2
theorem set_oth {w : World} {g b : Nat} {o : Obj} (h : w.heap[b]? = some o) (hne : g ≠ b) (j : Nat) (u : Value) : (w.setCell ⟨g, j, none⟩ u).heap[b]? = some o := by
  simp [World.setCell, Array.getElem?_modify, hne, h]
theorem set_heap {x : World} {b : Nat} {cs : Array Value} {t : TypeId} (h : x.heap[b]? = some (.cells cs t)) (j : Nat) (v : Value) : (x.setCell ⟨b, j, none⟩ v).heap[b]? = some (.cells (cs.setIfInBounds j v) t) := by
  simp [World.setCell, Array.getElem?_modify, h]
theorem own_set {w : World} {B te s n b : Nat} {v : Value} {xs : List Value} {cs : Array Value} {tb : TypeId} (h : w.ownsRow B te s v n xs) (hb : w.heap[b]? = some (.cells cs tb)) (ht : te ≠ tb) (j : Nat) (u : Value) : (w.setCell ⟨b, j, none⟩ u).ownsRow B te s v n xs := by
  obtain ⟨hl, h⟩ := h
  refine ⟨hl, ?_⟩
  rcases h with h | ⟨g, cap, cur, h1, h2, h3, h4⟩
  · exact .inl h
  · exact .inr ⟨g, cap, cur, h1, h2, set_oth h3 (ne_types hb h3 (Ne.symm ht)) j u, h4⟩
theorem row_ne {w : World} {B te s n b : Nat} {v : Value} {xs : List Value} {cs : Array Value} {tb : TypeId} (h : w.ownsRow B te s v n xs) (hb : w.heap[b]? = some (.cells cs tb)) (ht : te ≠ tb) : v.ownBlock ≠ some b := fun e => by
  rcases h.2 with ⟨rfl, _⟩ | ⟨g, cap, cur, rfl, _, h3, _⟩
  · cases e
  · simp only [Value.ownBlock, Option.some.injEq] at e
    subst e
    exact ne_types h3 hb ht rfl
theorem row_grown {w w' : World} {B1 B2 t1 t2 s1 s2 n1 n2 : Nat} {v1 v2 : Value} {xs1 xs2 : List Value} (h1 : w.ownsRow B1 t1 s1 v1 n1 xs1) (h2 : w.ownsRow B2 t2 s2 v2 n2 xs2) (ht : t1 ≠ t2) (hg : w.grownBy w' v2.ownBlock) : w'.ownsRow B1 t1 s1 v1 n1 xs1 := by
  obtain ⟨hl, h⟩ := h1
  refine ⟨hl, ?_⟩
  rcases h with h | ⟨g, cap, cur, e1, e2, e3, e4⟩
  · exact .inl h
  · exact .inr ⟨g, cap, cur, e1, e2, (hg.block g (Array.getElem?_eq_some_iff.1 e3).1 (Ne.symm (row_ne h2 e3 ht.symm))).trans e3, e4⟩
theorem box_grown {w w' : World} {B te s n b : Nat} {v : Value} {xs : List Value} {cs : Array Value} {tb : TypeId} (hb : w.heap[b]? = some (.cells cs tb)) (h : w.ownsRow B te s v n xs) (ht : te ≠ tb) (hg : w.grownBy w' v.ownBlock) : w'.heap[b]? = some (.cells cs tb) :=
  (hg.block _ (Array.getElem?_eq_some_iff.1 hb).1 (Ne.symm (row_ne h hb ht))).trans hb
theorem box_below {w w' : World} {b : Nat} {o : Obj} (h : w.heap[b]? = some o) (hB : Below w.heap.size w w') : w'.heap[b]? = some o := (hB.block _ (Array.getElem?_eq_some_iff.1 h).1).trans h
/-- A node's properties, being copied. -/
structure InN (l : ByteArray) (ps : List Pp) (pu : Value) (y x : World) : Prop where
  below : Below y.heap.size y x
  box : x.heap[y.heap.size]? = some (.cells #[.string l, pu] 33)
  row : x.ownsRow y.heap.size 43 4 pu ps.length (propR.flat ps)
theorem InN.step {l : ByteArray} {ps : List Pp} {pu : Value} {y x z : World} (h : InN l ps pu y x) (hB : Below x.heap.size x z) : InN l ps pu y z :=
  ⟨h.below.trans (hB.mono h.below.size), box_below h.box hB, owns_keep h.row hB⟩
theorem InN.next {l : ByteArray} {ps : List Pp} {pu v' : Value} {y x x2 : World} {q : Pp} (h : InN l ps pu y x) (hown : x2.ownsRow y.heap.size 43 4 v' (ps.length + 1) (propR.flat ps ++ propR.enc q)) (hg : x.grownBy x2 pu.ownBlock) :
    InN l (ps ++ [q]) v' y (x2.setCell ⟨y.heap.size, 1, none⟩ v') := by
  have hb := box_grown h.box h.row (by decide) hg
  refine ⟨(h.below.grown hg h.below.size (fun j hj => (h.row.lt j hj).1)).setCell (Nat.le_refl _) _, by simpa using set_heap hb 1 v', ?_⟩
  rw [Rec.flat_app, Rec.flat_one, List.length_append]
  exact own_set hown hb (by decide) _ _
/-- The nodes that are copied. -/
structure NodesAt (B : Nat) (u : Value) (vs : List NdV) (ns : List Nd) (x : World) : Prop where
  row : x.ownsRow B 33 2 u vs.length (nodeR.flat vs)
  len : vs.length = ns.length
  each : ∀ i, i < ns.length → (vs.getD i NdV.none).l = (ns.getD i Nd.none).l ∧ x.ownsRow 0 43 4 (.slice (vs.getD i NdV.none).a (vs.getD i NdV.none).n (vs.getD i NdV.none).c) (ns.getD i Nd.none).ps.length (propR.flat (ns.getD i Nd.none).ps)
theorem NodesAt.step {B : Nat} {u : Value} {vs : List NdV} {ns : List Nd} {x z : World} (h : NodesAt B u vs ns x) (hB : Below x.heap.size x z) : NodesAt B u vs ns z :=
  ⟨owns_keep h.row hB, h.len, fun i hi => ⟨(h.each i hi).1, owns_keep (h.each i hi).2 hB⟩⟩
theorem NodesAt.set {B : Nat} {u : Value} {vs : List NdV} {ns : List Nd} {x : World} {b : Nat} {cs : Array Value} (h : NodesAt B u vs ns x) (hb : x.heap[b]? = some (.cells cs 25)) (j : Nat) (v : Value) : NodesAt B u vs ns (x.setCell ⟨b, j, none⟩ v) :=
  ⟨own_set h.row hb (by decide) _ _, h.len, fun i hi => ⟨(h.each i hi).1, own_set (h.each i hi).2 hb (by decide) _ _⟩⟩
theorem NodesAt.holds {B : Nat} {u : Value} {vs : List NdV} {ns : List Nd} {x : World} (h : NodesAt B u vs ns x) : HoldsN x u ns :=
  ⟨vs, holdsR_of_owns h.row, h.len, fun i hi => ⟨(h.each i hi).1, holdsR_of_owns (h.each i hi).2⟩⟩
theorem NodesAt.next {B : Nat} {u v' : Value} {vs : List NdV} {ns : List Nd} {x x2 : World} {l : ByteArray} {pa : Option Addr} {pn pc : Nat} {ps : List Pp} (h : NodesAt B u vs ns x) (hr : x.ownsRow 0 43 4 (.slice pa pn pc) ps.length (propR.flat ps))
    (hown : x2.ownsRow B 33 2 v' (vs.length + 1) (nodeR.flat vs ++ [.string l, .slice pa pn pc])) (hg : x.grownBy x2 u.ownBlock) : NodesAt B v' (vs ++ [NdV.mk l pa pn pc]) (ns ++ [Nd.mk l ps]) x2 := by
  refine ⟨by rw [Rec.flat_app, Rec.flat_one, List.length_append]; exact hown, by simp [h.len], fun i hi => ?_⟩
  by_cases hlt : i < ns.length
  · have e1 : (vs ++ [NdV.mk l pa pn pc]).getD i NdV.none = vs.getD i NdV.none := by simp [List.getD, List.getElem?_append_left (show i < vs.length by rw [h.len]; exact hlt)]
    have e2 : (ns ++ [Nd.mk l ps]).getD i Nd.none = ns.getD i Nd.none := by simp [List.getD, List.getElem?_append_left hlt]
    rw [e1, e2]
    exact ⟨(h.each i hlt).1, row_grown (h.each i hlt).2 h.row (by decide) hg⟩
  · have hi' : i = ns.length := by simp at hi; omega
    have e1 : (vs ++ [NdV.mk l pa pn pc]).getD i NdV.none = NdV.mk l pa pn pc := by simp [List.getD, hi', ← h.len]
    have e2 : (ns ++ [Nd.mk l ps]).getD i Nd.none = Nd.mk l ps := by simp [List.getD, hi']
    rw [e1, e2]
    exact ⟨rfl, row_grown hr h.row (by decide) hg⟩
theorem NodesAt.grown {B B2 : Nat} {u eu : Value} {vs : List NdV} {ns : List Nd} {x x2 : World} {n : Nat} {xs : List Value} (h : NodesAt B u vs ns x) (he : x.ownsRow B2 35 4 eu n xs) (hg : x.grownBy x2 eu.ownBlock) : NodesAt B u vs ns x2 :=
  ⟨row_grown h.row he (by decide) hg, h.len, fun i hi => ⟨(h.each i hi).1, row_grown (h.each i hi).2 he (by decide) hg⟩⟩
/-- The three boxes, and the nodes. -/
structure G1 (nv ev : Value) (vs : List NdV) (ns : List Nd) (u : Value) (w x : World) : Prop where
  below : Below w.heap.size w x
  b1 : x.heap[w.heap.size]? = some (.cells #[nv, ev] 25)
  b2 : x.heap[w.heap.size + 1]? = some (.cells #[.slice none 0 0, .slice none 0 0] 25)
  b3 : x.heap[w.heap.size + 2]? = some (.cells #[u, .slice none 0 0] 25)
  nodes : NodesAt w.heap.size u vs ns x
theorem G1.step {nv ev : Value} {vs : List NdV} {ns : List Nd} {u : Value} {w x z : World} (h : G1 nv ev vs ns u w x) (hB : Below x.heap.size x z) : G1 nv ev vs ns u w z :=
  ⟨h.below.trans (hB.mono h.below.size), box_below h.b1 hB, box_below h.b2 hB, box_below h.b3 hB, h.nodes.step hB⟩
theorem G1.next {nv ev : Value} {vs : List NdV} {ns : List Nd} {u v' : Value} {w x x2 : World} {l : ByteArray} {pa : Option Addr} {pn pc : Nat} {ps : List Pp} (h : G1 nv ev vs ns u w x) (hr : x.ownsRow 0 43 4 (.slice pa pn pc) ps.length (propR.flat ps))
    (hown : x2.ownsRow w.heap.size 33 2 v' (vs.length + 1) (nodeR.flat vs ++ [.string l, .slice pa pn pc])) (hg : x.grownBy x2 u.ownBlock) : G1 nv ev (vs ++ [NdV.mk l pa pn pc]) (ns ++ [Nd.mk l ps]) v' w (x2.setCell ⟨w.heap.size + 2, 0, none⟩ v') := by
  have hb1 := box_grown h.b1 h.nodes.row (by decide) hg
  have hb2 := box_grown h.b2 h.nodes.row (by decide) hg
  have hb3 := box_grown h.b3 h.nodes.row (by decide) hg
  exact ⟨(h.below.grown hg h.below.size (fun j hj => (h.nodes.row.lt j hj).1)).setCell (by simp) _, set_oth hb1 (by omega) _ _, set_oth hb2 (by omega) _ _, by simpa using set_heap hb3 0 v', (h.nodes.next hr hown hg).set hb3 _ _⟩
/-- The three boxes, the nodes, and the edges. -/
structure G2 (nv ev : Value) (vs : List NdV) (ns : List Nd) (u : Value) (es : List Eg) (eu : Value) (w x : World) : Prop where
  below : Below w.heap.size w x
  b1 : x.heap[w.heap.size]? = some (.cells #[nv, ev] 25)
  b2 : x.heap[w.heap.size + 1]? = some (.cells #[.slice none 0 0, .slice none 0 0] 25)
  b3 : x.heap[w.heap.size + 2]? = some (.cells #[u, eu] 25)
  nodes : NodesAt w.heap.size u vs ns x
  row : x.ownsRow w.heap.size 35 4 eu es.length (edgeR.flat es)
theorem G2.step {nv ev : Value} {vs : List NdV} {ns : List Nd} {u : Value} {es : List Eg} {eu : Value} {w x z : World} (h : G2 nv ev vs ns u es eu w x) (hB : Below x.heap.size x z) : G2 nv ev vs ns u es eu w z :=
  ⟨h.below.trans (hB.mono h.below.size), box_below h.b1 hB, box_below h.b2 hB, box_below h.b3 hB, h.nodes.step hB, owns_keep h.row hB⟩
theorem G2.next {nv ev : Value} {vs : List NdV} {ns : List Nd} {u : Value} {es : List Eg} {eu v' : Value} {w x x2 : World} {q : Eg} (h : G2 nv ev vs ns u es eu w x)
    (hown : x2.ownsRow w.heap.size 35 4 v' (es.length + 1) (edgeR.flat es ++ edgeR.enc q)) (hg : x.grownBy x2 eu.ownBlock) : G2 nv ev vs ns u (es ++ [q]) v' w (x2.setCell ⟨w.heap.size + 2, 1, none⟩ v') := by
  have hb1 := box_grown h.b1 h.row (by decide) hg
  have hb2 := box_grown h.b2 h.row (by decide) hg
  have hb3 := box_grown h.b3 h.row (by decide) hg
  refine ⟨(h.below.grown hg h.below.size (fun j hj => (h.row.lt j hj).1)).setCell (by simp) _, set_oth hb1 (by omega) _ _, set_oth hb2 (by omega) _ _, by simpa using set_heap hb3 1 v', (h.nodes.grown h.row hg).set hb3 _ _, ?_⟩
  rw [Rec.flat_app, Rec.flat_one, List.length_append]
  exact own_set hown hb3 (by decide) _ _
end Go.Proofs.YtjgddkbpfpgaoacGreatDoor
/-
  A CUT TEXT, by contract.
-/
namespace Go.Proofs.YtjgddkbpfpgaoacGreatDoor
open Go.ChangeShapes Go.WideShapes Go.ChangeAt Go.RowKit

def cutB (s : ByteArray) (m : Nat) : ByteArray := if m < s.size then s.extract 0 m else s
theorem cutB_size (s : ByteArray) (m : Nat) : (cutB s m).size ≤ m := by
  unfold cutB; split
  · simp; omega
  · omega

set_option maxHeartbeats 800000 in
theorem cut_c (s : ByteArray) (m : Nat) (w : World) (hm : m ≤ 1000) :
    Calls Tryz.prog 5 #[.string s, .int .i64 m] w fun e w' => e = .returned (.string (cutB s m)) ∧ w' = w := by
  unfold cutB
  by_cases h : m < s.size
  · rw [if_pos h]
    go_enter Tryz.func5, Tryz.ntmps5
    go_wp2
    go_ret
    exact ⟨rfl, rfl⟩
  · rw [if_neg h]
    go_enter Tryz.func5, Tryz.ntmps5
    go_wp2
    go_ret
    exact ⟨rfl, rfl⟩
end Go.Proofs.YtjgddkbpfpgaoacGreatDoor
/-
  A VALUE, SOMEWHAT CUT, by contract.
-/
namespace Go.Proofs.YtjgddkbpfpgaoacGreatDoor
open Go.ChangeShapes Go.WideShapes Go.ChangeAt Go.RowKit

theorem heapTwo_new (w : World) (a b : Obj) : ((w.alloc a).alloc b).heap[w.heap.size + 1]? = some b := by
  rw [show w.heap.size + 1 = (w.alloc a).heap.size by show _ = (w.heap.push a).size; simp]
  exact heap_alloc_new _ _
set_option maxHeartbeats 800000 in
theorem vfew_c (k n : Int) (s : ByteArray) (w : World) : Calls Tryz.prog 19 #[.agg #[.int .i64 k, .int .i64 n, .string s]] w
    fun e w' => e = .returned (.agg #[.int .i64 k, .int .i64 n, .string (cutB s 120)]) ∧ Below w.heap.size w w' := by
  have hc := fun w => cut_c s 120 w (by omega)
  generalize cutB s 120 = t at *
  go_enter Tryz.func19, Tryz.ntmps19
  go_wp2_with (go_at_call 5; refine (hc _).mono ?_; rintro e w' ⟨rfl, rfl⟩)
  refine bodyPost_ret (results_cell_row rfl _ _ (w.heap.size + 1) _ _ _ _ rfl (heapTwo_new _ _ _) Tryz.underlying29 rfl (by kernel_rfl)) rfl ⟨rfl, ?_⟩
  exact ((Below.refl _ _).alloc (Nat.le_refl _) _).alloc (by show _ ≤ (w.heap.push _).size; simp) _
end Go.Proofs.YtjgddkbpfpgaoacGreatDoor
