/-
  AN AUTOMATON THAT IS COPIED: what lies between its parts.
-/
import Derived.Test.YtfdbedeidcaonabDoorDfas
namespace Go.Proofs.YtfdbedeidcaonabDoor
open Go.ChangeShapes Go.WideShapes Go.ChangeAt Go.RowKit

theorem own_shape {w : World} {B t s n : Nat} {v : Value} {xs : List Value} (h : w.ownsRow B t s v n xs) : ∃ a c, v = .slice a n c := by
  rcases h.2 with ⟨rfl, h0⟩ | ⟨g, cap, cur, rfl, _⟩
  · exact ⟨none, 0, by rw [h0]⟩
  · exact ⟨_, _, rfl⟩
theorem own0 {w : World} {B t s n : Nat} {v : Value} {xs : List Value} (h : w.ownsRow B t s v n xs) : w.ownsRow 0 t s v n xs := by
  obtain ⟨hl, h⟩ := h
  refine ⟨hl, ?_⟩
  rcases h with h | ⟨g, cap, cur, h1, _, h3⟩
  · exact .inl h
  · exact .inr ⟨g, cap, cur, h1, Nat.zero_le _, h3⟩
theorem ne_types {w : World} {b c : Nat} {x y : Array Value} {t u : TypeId} (h1 : w.heap[b]? = some (.cells x t)) (h2 : w.heap[c]? = some (.cells y u)) (ht : t ≠ u) : b ≠ c := fun e => by
  subst e
  rw [h1] at h2
  injection h2 with h2
  injection h2 with _ h2 _
  exact ht h2
theorem set_oth {w : World} {g b : Nat} {o : Obj} (h : w.heap[b]? = some o) (hne : g ≠ b) (j : Nat) (u : Value) : (w.setCell ⟨g, j, none⟩ u).heap[b]? = some o := by
  simp [World.setCell, Array.getElem?_modify, hne, h]
theorem set_heap {x : World} {b : Nat} {cs : Array Value} {t : TypeId} (h : x.heap[b]? = some (.cells cs t)) (j : Nat) (v : Value) : (x.setCell ⟨b, j, none⟩ v).heap[b]? = some (.cells (cs.setIfInBounds j v) t) := by
  simp [World.setCell, Array.getElem?_modify, h]
theorem own_set {w : World} {B te s n b : Nat} {v : Value} {xs : List Value} {cs : Array Value} {tb : TypeId} (h : w.ownsRow B te s v n xs) (hb : w.heap[b]? = some (.cells cs tb)) (ht : te ≠ tb) (j : Nat) (u : Value) : (w.setCell ⟨b, j, none⟩ u).ownsRow B te s v n xs := by
  obtain ⟨hl, h⟩ := h
  refine ⟨hl, ?_⟩
  rcases h with h | ⟨g, cap, cur, h1, h2, h3, h4⟩
  · exact .inl h
  · exact .inr ⟨g, cap, cur, h1, h2, set_oth h3 (ne_types hb h3 (Ne.symm ht)) j u, h4⟩
theorem row_ne {w : World} {B te s n b : Nat} {v : Value} {xs : List Value} {cs : Array Value} {tb : TypeId} (h : w.ownsRow B te s v n xs) (hb : w.heap[b]? = some (.cells cs tb)) (ht : te ≠ tb) : v.ownBlock ≠ some b := fun e => by
  rcases h.2 with ⟨rfl, _⟩ | ⟨g, cap, cur, rfl, _, h3, _⟩
  · cases e
  · simp only [Value.ownBlock, Option.some.injEq] at e
    subst e
    exact ne_types h3 hb ht rfl
theorem row_grown {w w' : World} {B1 B2 t1 t2 s1 s2 n1 n2 : Nat} {v1 v2 : Value} {xs1 xs2 : List Value} (h1 : w.ownsRow B1 t1 s1 v1 n1 xs1) (h2 : w.ownsRow B2 t2 s2 v2 n2 xs2) (ht : t1 ≠ t2) (hg : w.grownBy w' v2.ownBlock) : w'.ownsRow B1 t1 s1 v1 n1 xs1 := by
  obtain ⟨hl, h⟩ := h1
  refine ⟨hl, ?_⟩
  rcases h with h | ⟨g, cap, cur, e1, e2, e3, e4⟩
  · exact .inl h
  · exact .inr ⟨g, cap, cur, e1, e2, (hg.block g (Array.getElem?_eq_some_iff.1 e3).1 (Ne.symm (row_ne h2 e3 ht.symm))).trans e3, e4⟩
theorem box_grown {w w' : World} {B te s n b : Nat} {v : Value} {xs : List Value} {cs : Array Value} {tb : TypeId} (hb : w.heap[b]? = some (.cells cs tb)) (h : w.ownsRow B te s v n xs) (ht : te ≠ tb) (hg : w.grownBy w' v.ownBlock) : w'.heap[b]? = some (.cells cs tb) :=
  (hg.block _ (Array.getElem?_eq_some_iff.1 hb).1 (Ne.symm (row_ne h hb ht))).trans hb
theorem box_below {w w' : World} {b : Nat} {o : Obj} (h : w.heap[b]? = some o) (hB : Below w.heap.size w w') : w'.heap[b]? = some o := (hB.block _ (Array.getElem?_eq_some_iff.1 h).1).trans h
/-- The rows that are copied. -/
structure RowsAt (B : Nat) (u : Value) (vs : List RwV) (ns : List (List Int)) (x : World) : Prop where
  row : x.ownsRow B 28 1 u vs.length (rowR.flat vs)
  len : vs.length = ns.length
  each : ∀ i, i < ns.length → x.ownsRow B 3 1 (.slice (vs.getD i RwV.none).a (vs.getD i RwV.none).n (vs.getD i RwV.none).c) (ns.getD i []).length (intR.flat (ns.getD i []))
theorem RowsAt.step {B : Nat} {u : Value} {vs : List RwV} {ns : List (List Int)} {x z : World} (h : RowsAt B u vs ns x) (hB : Below x.heap.size x z) : RowsAt B u vs ns z :=
  ⟨owns_keep h.row hB, h.len, fun i hi => owns_keep (h.each i hi) hB⟩
theorem RowsAt.set {B : Nat} {u : Value} {vs : List RwV} {ns : List (List Int)} {x : World} {b : Nat} {cs : Array Value} (h : RowsAt B u vs ns x) (hb : x.heap[b]? = some (.cells cs 26)) (j : Nat) (v : Value) : RowsAt B u vs ns (x.setCell ⟨b, j, none⟩ v) :=
  ⟨own_set h.row hb (by decide) _ _, h.len, fun i hi => own_set (h.each i hi) hb (by decide) _ _⟩
theorem RowsAt.holds {B : Nat} {u : Value} {vs : List RwV} {ns : List (List Int)} {x : World} (h : RowsAt B u vs ns x) : HoldsRows x u ns :=
  ⟨vs, holdsR_of_owns h.row, h.len, fun i hi => holdsR_of_owns (h.each i hi)⟩
theorem RowsAt.next {B : Nat} {u v' : Value} {vs : List RwV} {ns : List (List Int)} {x x2 : World} {pa : Option Addr} {pn pc : Nat} {l : List Int} (h : RowsAt B u vs ns x) (hr : x.ownsRow B 3 1 (.slice pa pn pc) l.length (intR.flat l))
    (hown : x2.ownsRow B 28 1 v' (vs.length + 1) (rowR.flat vs ++ [.slice pa pn pc])) (hg : x.grownBy x2 u.ownBlock) : RowsAt B v' (vs ++ [RwV.mk pa pn pc]) (ns ++ [l]) x2 := by
  refine ⟨by rw [Rec.flat_app, Rec.flat_one, List.length_append]; exact hown, by simp [h.len], fun i hi => ?_⟩
  by_cases hlt : i < ns.length
  · have e1 : (vs ++ [RwV.mk pa pn pc]).getD i RwV.none = vs.getD i RwV.none := by simp [List.getD, List.getElem?_append_left (show i < vs.length by rw [h.len]; exact hlt)]
    have e2 : (ns ++ [l]).getD i [] = ns.getD i [] := by simp [List.getD, List.getElem?_append_left hlt]
    rw [e1, e2]
    exact row_grown (h.each i hlt) h.row (by decide) hg
  · have hi' : i = ns.length := by simp at hi; omega
    have e1 : (vs ++ [RwV.mk pa pn pc]).getD i RwV.none = RwV.mk pa pn pc := by simp [List.getD, hi', ← h.len]
    have e2 : (ns ++ [l]).getD i [] = l := by simp [List.getD, hi']
    rw [e1, e2]
    exact row_grown hr h.row (by decide) hg
theorem RowsAt.grown {B B2 : Nat} {u eu : Value} {vs : List RwV} {ns : List (List Int)} {x x2 : World} {t s n : Nat} {xs : List Value} (h : RowsAt B u vs ns x) (he : x.ownsRow B2 t s eu n xs) (ht : 28 ≠ t) (ht2 : 3 ≠ t) (hg : x.grownBy x2 eu.ownBlock) : RowsAt B u vs ns x2 :=
  ⟨row_grown h.row he ht hg, h.len, fun i hi => row_grown (h.each i hi) he ht2 hg⟩
/-- The three boxes, and the three rows. -/
structure D1 (sv nv av : Value) (us un ua : Value) (SS : List Sy) (vs : List RwV) (NS : List (List Int)) (AC : List Bool) (w x : World) : Prop where
  below : Below w.heap.size w x
  b1 : x.heap[w.heap.size]? = some (.cells #[sv, nv, av] 26)
  b2 : x.heap[w.heap.size + 1]? = some (.cells #[.slice none 0 0, .slice none 0 0, .slice none 0 0] 26)
  b3 : x.heap[w.heap.size + 2]? = some (.cells #[us, un, ua] 26)
  rs : x.ownsRow w.heap.size 33 2 us SS.length (symR.flat SS)
  rn : RowsAt w.heap.size un vs NS x
  ra : x.ownsRow w.heap.size 4 1 ua AC.length (boolR.flat AC)
section
variable {sv nv av us un ua v' : Value} {SS : List Sy} {vs : List RwV} {NS : List (List Int)} {AC : List Bool} {w x z : World}
theorem D1.step (h : D1 sv nv av us un ua SS vs NS AC w x) (hB : Below x.heap.size x z) : D1 sv nv av us un ua SS vs NS AC w z :=
  ⟨h.below.trans (hB.mono h.below.size), box_below h.b1 hB, box_below h.b2 hB, box_below h.b3 hB, owns_keep h.rs hB, h.rn.step hB, owns_keep h.ra hB⟩
theorem D1.syms {q : Sy} (h : D1 sv nv av us un ua SS vs NS AC w x) (hown : z.ownsRow w.heap.size 33 2 v' (SS.length + 1) (symR.flat SS ++ symR.enc q)) (hg : x.grownBy z us.ownBlock) :
    D1 sv nv av v' un ua (SS ++ [q]) vs NS AC w (z.setCell ⟨w.heap.size + 2, 0, none⟩ v') := by
  have hb1 := box_grown h.b1 h.rs (by decide) hg
  have hb2 := box_grown h.b2 h.rs (by decide) hg
  have hb3 := box_grown h.b3 h.rs (by decide) hg
  refine ⟨(h.below.grown hg h.below.size (fun j hj => (h.rs.lt j hj).1)).setCell (by simp) _, set_oth hb1 (by omega) _ _, set_oth hb2 (by omega) _ _, by simpa using set_heap hb3 0 v', ?_, (h.rn.grown h.rs (by decide) (by decide) hg).set hb3 _ _, own_set (row_grown h.ra h.rs (by decide) hg) hb3 (by decide) _ _⟩
  rw [Rec.flat_app, Rec.flat_one, List.length_append]
  exact own_set hown hb3 (by decide) _ _
theorem D1.rows {pa : Option Addr} {pn pc : Nat} {l : List Int} (h : D1 sv nv av us un ua SS vs NS AC w x) (hr : x.ownsRow w.heap.size 3 1 (.slice pa pn pc) l.length (intR.flat l))
    (hown : z.ownsRow w.heap.size 28 1 v' (vs.length + 1) (rowR.flat vs ++ [.slice pa pn pc])) (hg : x.grownBy z un.ownBlock) :
    D1 sv nv av us v' ua SS (vs ++ [RwV.mk pa pn pc]) (NS ++ [l]) AC w (z.setCell ⟨w.heap.size + 2, 1, none⟩ v') := by
  have hb1 := box_grown h.b1 h.rn.row (by decide) hg
  have hb2 := box_grown h.b2 h.rn.row (by decide) hg
  have hb3 := box_grown h.b3 h.rn.row (by decide) hg
  exact ⟨(h.below.grown hg h.below.size (fun j hj => (h.rn.row.lt j hj).1)).setCell (by simp) _, set_oth hb1 (by omega) _ _, set_oth hb2 (by omega) _ _, by simpa using set_heap hb3 1 v', own_set (row_grown h.rs h.rn.row (by decide) hg) hb3 (by decide) _ _, (h.rn.next hr hown hg).set hb3 _ _, own_set (row_grown h.ra h.rn.row (by decide) hg) hb3 (by decide) _ _⟩
theorem D1.accs {q : Bool} (h : D1 sv nv av us un ua SS vs NS AC w x) (hown : z.ownsRow w.heap.size 4 1 v' (AC.length + 1) (boolR.flat AC ++ boolR.enc q)) (hg : x.grownBy z ua.ownBlock) :
    D1 sv nv av us un v' SS vs NS (AC ++ [q]) w (z.setCell ⟨w.heap.size + 2, 2, none⟩ v') := by
  have hb1 := box_grown h.b1 h.ra (by decide) hg
  have hb2 := box_grown h.b2 h.ra (by decide) hg
  have hb3 := box_grown h.b3 h.ra (by decide) hg
  refine ⟨(h.below.grown hg h.below.size (fun j hj => (h.ra.lt j hj).1)).setCell (by simp) _, set_oth hb1 (by omega) _ _, set_oth hb2 (by omega) _ _, by simpa using set_heap hb3 2 v', own_set (row_grown h.rs h.ra (by decide) hg) hb3 (by decide) _ _, (h.rn.grown h.ra (by decide) (by decide) hg).set hb3 _ _, ?_⟩
  rw [Rec.flat_app, Rec.flat_one, List.length_append]
  exact own_set hown hb3 (by decide) _ _
theorem D1.holds (h : D1 sv nv av us un ua SS vs NS AC w x) : HoldsD x us un ua ⟨SS, NS, AC⟩ := ⟨holdsR_of_owns h.rs, h.rn.holds, holdsR_of_owns h.ra⟩
end
end Go.Proofs.YtfdbedeidcaonabDoor
