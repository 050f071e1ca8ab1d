/-
  A GRAPH IN MEMORY OF ITS OWN. No function is named here.
-/
import Derived.Test.YtjgddkbpfpgaoacGreatDoorGFew
import Derived.Test.YtjgddkbpfpgaoacGreatDoorGSame
import Derived.Laws.OwnMore
import Derived.Deep.RegionHeld3
namespace Go.Proofs.YtjgddkbpfpgaoacGreatDoor
open Go.ChangeShapes Go.WideShapes Go.ChangeAt Go.RowKit

/-- A graph in memory of its own. -/
structure OwnG (g : Gr) (vs : List NdV) (a : Option Addr) (n c : Nat) (b : Option Addr) (m d : Nat) (x : World) : Prop where
  nodes : NodesAt 0 (.slice a n c) vs g.ns x
  edges : x.ownsRow 0 35 4 (.slice b m d) g.es.length (edgeR.flat g.es)
theorem OwnG.calm {g : Gr} {vs : List NdV} {a : Option Addr} {n c : Nat} {b : Option Addr} {m d : Nat} {x y : World} (h : OwnG g vs a n c b m d x) (hB : Below x.heap.size x y) : OwnG g vs a n c b m d y := ⟨h.nodes.step hB, owns_keep h.edges hB⟩
theorem OwnG.len {g : Gr} {vs : List NdV} {a : Option Addr} {n c : Nat} {b : Option Addr} {m d : Nat} {x : World} (h : OwnG g vs a n c b m d x) : n = g.ns.length ∧ m = g.es.length := by
  obtain ⟨⟨h1, h2, _⟩, h3⟩ := h
  obtain ⟨_, _, he⟩ := own_shape h1
  obtain ⟨_, _, hf⟩ := own_shape h3
  simp only [Value.slice.injEq] at he hf
  exact ⟨by rw [he.2.1, h2], hf.2.1⟩
/-- A node of it. -/
theorem OwnG.node {g : Gr} {vs : List NdV} {a : Option Addr} {n c : Nat} {b : Option Addr} {m d : Nat} {x : World} (h : OwnG g vs a n c b m d x) {k : Nat} (hk : k < g.ns.length) :
    ∃ B off pa pn pc, a = some ⟨B, off, none⟩ ∧ B < x.heap.size ∧ x.cell? ⟨B, off + k * 2, none⟩ = some (.string (g.ns.getD k Nd.none).l) ∧ x.cell? ⟨B, off + k * 2 + 1, none⟩ = some (.slice pa pn pc) ∧ SlR propR x (.slice pa pn pc) (g.ns.getD k Nd.none).ps := by
  obtain ⟨⟨h1, h2, h3⟩, _⟩ := h
  obtain ⟨a', c', he, -, -, -, hr⟩ := slR_of_owns h1
  simp only [Value.slice.injEq] at he
  obtain ⟨rfl, _, _⟩ := he
  obtain ⟨B, off, rfl, hb, hc⟩ := rec_at hr (k := k) (by omega)
  obtain ⟨hl, hp⟩ := h3 k hk
  refine ⟨B, off, (vs.getD k NdV.none).a, (vs.getD k NdV.none).n, (vs.getD k NdV.none).c, rfl, hb, ?_, hc 1 _ rfl, slR_of_owns hp⟩
  rw [← hl]
  exact hc 0 _ rfl
theorem OwnG.edge {g : Gr} {vs : List NdV} {a : Option Addr} {n c : Nat} {b : Option Addr} {m d : Nat} {x : World} (h : OwnG g vs a n c b m d x) : RowAt x b (edgeR.flat g.es) := by
  obtain ⟨a', c', he, -, -, -, hr⟩ := slR_of_owns h.edges
  simp only [Value.slice.injEq] at he
  obtain ⟨rfl, _, _⟩ := he
  exact hr
end Go.Proofs.YtjgddkbpfpgaoacGreatDoor
/-
  ROWS OF A GRAPH COPIED (slices.Clone), by contract.
-/
namespace Go.Proofs.YtjgddkbpfpgaoacGreatDoor
open Go.ChangeShapes Go.WideShapes Go.ChangeAt Go.RowKit
set_option maxHeartbeats 3200000 in
set_option maxRecDepth 100000 in
theorem nclone_c (a : Option Addr) (c : Nat) (ps : List NdV) (w : World) (hv : RowAt w a (nodeR.flat ps)) (hx : ps.length ≤ 1000000) (hc : a = none → c = 0) :
    Calls Tryz.prog 20 #[.slice a ps.length c] w fun e w' => ∃ a' c', e = .returned (.slice a' (List.length ps) c') ∧ w'.ownsRow w.heap.size 33 2 (.slice a' ps.length c') ps.length (nodeR.flat ps) ∧ Below w.heap.size w w' := by
  obtain ⟨i0, hi, hz0, hz1, hz2⟩ := info_parts infoN
  match a, hv, hc with
  | none, hv, hc =>
    obtain rfl := hc rfl
    obtain rfl : ps = [] := by
      rcases hv with h0 | ⟨b, off, h, _⟩
      · have := congrArg List.length h0
        rw [Rec.flat_len] at this
        have : ps.length * 2 = 0 := this
        exact List.eq_nil_of_length_eq_zero (by omega)
      · cases h
    have hB : Hid (Below w.heap.size w w) := Below.refl _ _
    have hne : ∀ x : World, Sem.run Tryz.prog (binOp BinOp.eql 22 (.slice none 0 0) (.slice none 0 0)) x = .ok (.bool true) x := fun x => by rfl
    simp only [List.length_nil]
    go_enter Tryz.func20, Tryz.ntmps20
    go_wp2
    go_ret
    exact ⟨_, _, rfl, World.ownsRow_nil .., hB.out⟩
  | some ad, hv, _ =>
    have hbl : ∀ j u, (nodeR.flat ps)[j]? = some u → (w.alloc (.cells #[] 33)).cell? (ad.add j) = some u := fun j u hj => by
      rcases hv with h0 | ⟨b, off, h', hb, h3⟩
      · rw [h0] at hj; cases hj
      · cases h'
        exact (((Below.refl w.heap.size w).alloc (Nat.le_refl _) _).cell (p := (⟨b, off, none⟩ : Addr).add j) (by rw [add_plain]; exact hb)).trans (by rw [add_plain]; exact h3 j u hj)
    have hne : ∀ x : World, Sem.run Tryz.prog (binOp BinOp.eql 22 (.slice (some ad) ps.length c) (.slice none 0 0)) x = .ok (.bool false) x := fun x => by rfl
    replace hv := hidden hv
    replace hbl := hidden hbl
    go_enter Tryz.func20, Tryz.ntmps20
    go_wp2_with (at_builtin; refine wpList_append_own _ rfl _ _ 22 rfl w.heap.size 33 i0 (.agg #[.string ⟨#[]⟩, .slice none 0 0]) 2 40 Tryz.underlying22 hi hz0 hz1 hz2 rfl (by decide) _ _ _ rfl (World.ownsRow_made w #[] 0 (Nat.le_refl _) (by unfold maxLen; omega) rfl) ad ps.length c (nodeR.flat ps) rfl (Rec.flat_len ps) hbl.out (Rec.flat_one_cell ps) (by unfold maxLen; omega) (by omega) (by simp) ?_; intro v' w1 hown' hgrow _)
    have hB3 : Hid (Below w.heap.size w w1) := ((Below.refl _ _).alloc (Nat.le_refl _) _).grown hgrow (by simp) (fun j hj => by cases hj; exact Nat.le_refl _)
    simp only [Nat.zero_add, List.nil_append] at hown'
    obtain ⟨a1, c1, rfl⟩ := own_shape hown'
    replace hown' := hidden hown'
    clear hgrow
    go_wp2
    go_ret
    exact ⟨_, _, rfl, hown'.out, hB3.out⟩
set_option maxHeartbeats 3200000 in
set_option maxRecDepth 100000 in
theorem eclone_c (a : Option Addr) (c : Nat) (ps : List Eg) (w : World) (hv : RowAt w a (edgeR.flat ps)) (hx : ps.length ≤ 1000000) (hc : a = none → c = 0) :
    Calls Tryz.prog 21 #[.slice a ps.length c] w fun e w' => ∃ a' c', e = .returned (.slice a' (List.length ps) c') ∧ w'.ownsRow w.heap.size 35 4 (.slice a' ps.length c') ps.length (edgeR.flat ps) ∧ Below w.heap.size w w' := by
  obtain ⟨i0, hi, hz0, hz1, hz2⟩ := info_parts infoE
  match a, hv, hc with
  | none, hv, hc =>
    obtain rfl := hc rfl
    obtain rfl : ps = [] := by
      rcases hv with h0 | ⟨b, off, h, _⟩
      · have := congrArg List.length h0
        rw [Rec.flat_len] at this
        have : ps.length * 4 = 0 := this
        exact List.eq_nil_of_length_eq_zero (by omega)
      · cases h
    have hB : Hid (Below w.heap.size w w) := Below.refl _ _
    have hne : ∀ x : World, Sem.run Tryz.prog (binOp BinOp.eql 23 (.slice none 0 0) (.slice none 0 0)) x = .ok (.bool true) x := fun x => by rfl
    simp only [List.length_nil]
    go_enter Tryz.func21, Tryz.ntmps21
    go_wp2
    go_ret
    exact ⟨_, _, rfl, World.ownsRow_nil .., hB.out⟩
  | some ad, hv, _ =>
    have hbl : ∀ j u, (edgeR.flat ps)[j]? = some u → (w.alloc (.cells #[] 35)).cell? (ad.add j) = some u := fun j u hj => by
      rcases hv with h0 | ⟨b, off, h', hb, h3⟩
      · rw [h0] at hj; cases hj
      · cases h'
        exact (((Below.refl w.heap.size w).alloc (Nat.le_refl _) _).cell (p := (⟨b, off, none⟩ : Addr).add j) (by rw [add_plain]; exact hb)).trans (by rw [add_plain]; exact h3 j u hj)
    have hne : ∀ x : World, Sem.run Tryz.prog (binOp BinOp.eql 23 (.slice (some ad) ps.length c) (.slice none 0 0)) x = .ok (.bool false) x := fun x => by rfl
    replace hv := hidden hv
    replace hbl := hidden hbl
    go_enter Tryz.func21, Tryz.ntmps21
    go_wp2_with (at_builtin; refine wpList_append_own _ rfl _ _ 23 rfl w.heap.size 35 i0 (.agg #[.int .i64 0, .int .i64 0, .string ⟨#[]⟩, .int .i64 0]) 4 40 Tryz.underlying23 hi hz0 hz1 hz2 rfl (by decide) _ _ _ rfl (World.ownsRow_made w #[] 0 (Nat.le_refl _) (by unfold maxLen; omega) rfl) ad ps.length c (edgeR.flat ps) rfl (Rec.flat_len ps) hbl.out (Rec.flat_one_cell ps) (by unfold maxLen; omega) (by omega) (by simp) ?_; intro v' w1 hown' hgrow _)
    have hB3 : Hid (Below w.heap.size w w1) := ((Below.refl _ _).alloc (Nat.le_refl _) _).grown hgrow (by simp) (fun j hj => by cases hj; exact Nat.le_refl _)
    simp only [Nat.zero_add, List.nil_append] at hown'
    obtain ⟨a1, c1, rfl⟩ := own_shape hown'
    replace hown' := hidden hown'
    clear hgrow
    go_wp2
    go_ret
    exact ⟨_, _, rfl, hown'.out, hB3.out⟩
set_option maxHeartbeats 3200000 in
set_option maxRecDepth 100000 in
theorem pclone_c (a : Option Addr) (c : Nat) (ps : List Pp) (w : World) (hv : RowAt w a (propR.flat ps)) (hx : ps.length ≤ 1000000) (hc : a = none → c = 0) :
    Calls Tryz.prog 22 #[.slice a ps.length c] w fun e w' => ∃ a' c', e = .returned (.slice a' (List.length ps) c') ∧ w'.ownsRow w.heap.size 43 4 (.slice a' ps.length c') ps.length (propR.flat ps) ∧ Below w.heap.size w w' := by
  obtain ⟨i0, hi, hz0, hz1, hz2⟩ := info_parts infoP
  match a, hv, hc with
  | none, hv, hc =>
    obtain rfl := hc rfl
    obtain rfl : ps = [] := by
      rcases hv with h0 | ⟨b, off, h, _⟩
      · have := congrArg List.length h0
        rw [Rec.flat_len] at this
        have : ps.length * 4 = 0 := this
        exact List.eq_nil_of_length_eq_zero (by omega)
      · cases h
    have hB : Hid (Below w.heap.size w w) := Below.refl _ _
    have hne : ∀ x : World, Sem.run Tryz.prog (binOp BinOp.eql 31 (.slice none 0 0) (.slice none 0 0)) x = .ok (.bool true) x := fun x => by rfl
    simp only [List.length_nil]
    go_enter Tryz.func22, Tryz.ntmps22
    go_wp2
    go_ret
    exact ⟨_, _, rfl, World.ownsRow_nil .., hB.out⟩
  | some ad, hv, _ =>
    have hbl : ∀ j u, (propR.flat ps)[j]? = some u → (w.alloc (.cells #[] 43)).cell? (ad.add j) = some u := fun j u hj => by
      rcases hv with h0 | ⟨b, off, h', hb, h3⟩
      · rw [h0] at hj; cases hj
      · cases h'
        exact (((Below.refl w.heap.size w).alloc (Nat.le_refl _) _).cell (p := (⟨b, off, none⟩ : Addr).add j) (by rw [add_plain]; exact hb)).trans (by rw [add_plain]; exact h3 j u hj)
    have hne : ∀ x : World, Sem.run Tryz.prog (binOp BinOp.eql 31 (.slice (some ad) ps.length c) (.slice none 0 0)) x = .ok (.bool false) x := fun x => by rfl
    replace hv := hidden hv
    replace hbl := hidden hbl
    go_enter Tryz.func22, Tryz.ntmps22
    go_wp2_with (at_builtin; refine wpList_append_own _ rfl _ _ 31 rfl w.heap.size 43 i0 (.agg #[.string ⟨#[]⟩, .int .i64 0, .int .i64 0, .string ⟨#[]⟩]) 4 48 Tryz.underlying31 hi hz0 hz1 hz2 rfl (by decide) _ _ _ rfl (World.ownsRow_made w #[] 0 (Nat.le_refl _) (by unfold maxLen; omega) rfl) ad ps.length c (propR.flat ps) rfl (Rec.flat_len ps) hbl.out (Rec.flat_one_cell ps) (by unfold maxLen; omega) (by omega) (by simp) ?_; intro v' w1 hown' hgrow _)
    have hB3 : Hid (Below w.heap.size w w1) := ((Below.refl _ _).alloc (Nat.le_refl _) _).grown hgrow (by simp) (fun j hj => by cases hj; exact Nat.le_refl _)
    simp only [Nat.zero_add, List.nil_append] at hown'
    obtain ⟨a1, c1, rfl⟩ := own_shape hown'
    replace hown' := hidden hown'
    clear hgrow
    go_wp2
    go_ret
    exact ⟨_, _, rfl, hown'.out, hB3.out⟩
end Go.Proofs.YtjgddkbpfpgaoacGreatDoor
/-
  A GRAPH WITH ITS EDGES TURNED ROUND, by contract.
-/
namespace Go.Proofs.YtjgddkbpfpgaoacGreatDoor
open Go.ChangeShapes Go.WideShapes Go.ChangeAt Go.RowKit

theorem own_le3 {w : World} {B B' t s n : Nat} {v : Value} {xs : List Value} (h : w.ownsRow B t s v n xs) (hB : B' ≤ B) : w.ownsRow B' t s v n xs := by
  obtain ⟨hl, h⟩ := h
  refine ⟨hl, ?_⟩
  rcases h with h | ⟨g, cap, cur, h1, h2, h3⟩
  · exact .inl h
  · exact .inr ⟨g, cap, cur, h1, Nat.le_trans hB h2, h3⟩
def Eg.turn (x : Eg) : Eg := ⟨x.t, x.f, x.l, x.w⟩
def Gr.turn (g : Gr) : Gr := ⟨g.ns, g.es.map Eg.turn⟩
theorem flat_set {α : Type} {R : Rec α} : ∀ (ps : List α) (k j : Nat) (q : α) (u : Value), k < ps.length → j < R.n → (R.enc (ps.getD k R.dflt)).set j u = R.enc q → (R.flat ps).set (k * R.n + j) u = R.flat (ps.set k q)
  | x :: ps, 0, j, q, u, _, hj, he => by
    rw [List.set_cons_zero, Rec.flat_cons, Rec.flat_cons, Nat.zero_mul, Nat.zero_add, List.set_append_left _ _ (by rw [R.len]; exact hj)]
    congr 1
  | x :: ps, k + 1, j, q, u, hk, hj, he => by
    rw [List.set_cons_succ, Rec.flat_cons, Rec.flat_cons, List.set_append_right _ _ (by rw [R.len, Nat.add_mul]; omega), R.len, show (k + 1) * R.n + j - R.n = k * R.n + j by rw [Nat.add_mul]; omega]
    rw [flat_set ps k j q u (by simpa using hk) hj (by simpa [List.getD] using he)]
/-- A graph that is being turned. -/
structure TS (w x : World) (b3 : Nat) (a : Option Addr) (c : Nat) (b : Option Addr) (d : Nat) (vs : List NdV) (ns : List Nd) (es : List Eg) : Prop where
  below : Below w.heap.size w x
  box : x.heap[b3]? = some (.cells #[.slice a ns.length c, .slice b es.length d] 25)
  out : x.heap[w.heap.size + 1]? = some (.cells #[.slice none 0 0, .slice none 0 0] 25)
  nodes : NodesAt w.heap.size (.slice a ns.length c) vs ns x
  edges : x.ownsRow w.heap.size 35 4 (.slice b es.length d) es.length (edgeR.flat es)
theorem ts_set {w z : World} {b3 : Nat} {a : Option Addr} {c : Nat} {b : Option Addr} {d : Nat} {vs : List NdV} {ns : List Nd} {es : List Eg} (hB : Below w.heap.size w z) (hb : w.heap.size ≤ b3) (hne : ¬ b3 = w.heap.size + 1) (hq : z.heap[b3]? = some (.cells #[.slice none 0 0, .slice none 0 0] 25))
    (ho : z.heap[w.heap.size + 1]? = some (.cells #[.slice none 0 0, .slice none 0 0] 25)) (hn : NodesAt w.heap.size (.slice a ns.length c) vs ns z) (he : z.ownsRow w.heap.size 35 4 (.slice b es.length d) es.length (edgeR.flat es)) :
    TS w ((z.setCell ⟨b3, 0, none⟩ (.slice a ns.length c)).setCell ⟨b3, 1, none⟩ (.slice b es.length d)) b3 a c b d vs ns es :=
  ⟨(hB.setCell (p := ⟨b3, 0, none⟩) hb _).setCell (p := ⟨b3, 1, none⟩) hb _, by simpa using set_heap (set_heap hq 0 (.slice a ns.length c)) 1 (.slice b es.length d), set_oth (set_oth ho hne _ _) hne _ _,
    (hn.set hq _ _).set (set_heap hq 0 (.slice a ns.length c)) _ _, own_set (own_set he hq (by decide) _ _) (set_heap hq 0 (.slice a ns.length c)) (by decide) _ _⟩
theorem TS.step {w x z : World} {b3 : Nat} {a : Option Addr} {c : Nat} {b : Option Addr} {d : Nat} {vs : List NdV} {ns : List Nd} {es : List Eg} (h : TS w x b3 a c b d vs ns es) (hB : Below x.heap.size x z) : TS w z b3 a c b d vs ns es :=
  ⟨h.below.trans (hB.mono h.below.size), box_below h.box hB, box_below h.out hB, h.nodes.step hB, owns_keep h.edges hB⟩
theorem nodes_block {x : World} {B n c : Nat} {a : Option Addr} {vs : List NdV} {ns : List Nd} (h : NodesAt B (.slice a n c) vs ns x) (hn : 0 < ns.length) : ∃ G cur, a = some ⟨G, 0, none⟩ ∧ B ≤ G ∧ x.heap[G]? = some (.cells cur 33 (0, 0)) := by
  obtain ⟨⟨hl, h1⟩, h2, _⟩ := h
  rcases h1 with ⟨h1, h0⟩ | ⟨g, cap, cur, h1, hg, hh, _⟩
  · omega
  · simp only [Value.slice.injEq] at h1
    exact ⟨g, cur, h1.1, hg, hh⟩
theorem own_block {w : World} {B t s n m c : Nat} {a : Option Addr} {xs : List Value} (h : w.ownsRow B t s (.slice a m c) n xs) (hn : 0 < n) : ∃ G cur, a = some ⟨G, 0, none⟩ ∧ B ≤ G ∧ w.heap[G]? = some (.cells cur t (0, 0)) := by
  rcases h.2 with ⟨h1, h0⟩ | ⟨g, cap, cur, h1, hg, hh, _⟩
  · omega
  · simp only [Value.slice.injEq] at h1
    exact ⟨g, cur, h1.1, hg, hh⟩
theorem own_setb {w : World} {B te s n b : Nat} {v : Value} {xs : List Value} {cs : Array Value} {tb : TypeId} {fz : Nat × Nat} (h : w.ownsRow B te s v n xs) (hb : w.heap[b]? = some (.cells cs tb fz)) (ht : te ≠ tb) (j : Nat) (u : Value) : (w.setCell ⟨b, j, none⟩ u).ownsRow B te s v n xs := by
  obtain ⟨hl, h⟩ := h
  refine ⟨hl, ?_⟩
  rcases h with h | ⟨g, cap, cur, h1, h2, h3, h4⟩
  · exact .inl h
  · refine .inr ⟨g, cap, cur, h1, h2, ?_, h4⟩
    have hne : b ≠ g := fun e => by
      subst e
      rw [hb] at h3
      injection h3 with h3
      injection h3 with _ h3 _
      exact ht h3.symm
    simp [World.setCell, Array.getElem?_modify, hne, h3]
theorem box_setb {w : World} {b B : Nat} {cs ds : Array Value} {tb td : TypeId} {fz fy : Nat × Nat} (h : w.heap[B]? = some (.cells ds td fy)) (hb : w.heap[b]? = some (.cells cs tb fz)) (ht : td ≠ tb) (j : Nat) (u : Value) : (w.setCell ⟨b, j, none⟩ u).heap[B]? = some (.cells ds td fy) := by
  have hne : b ≠ B := fun e => by
    subst e
    rw [hb] at h
    injection h with h
    injection h with _ h _
    exact ht h.symm
  simp [World.setCell, Array.getElem?_modify, hne, h]
/-- A node's properties are copied. -/
theorem TS.node {w x : World} {b3 : Nat} {G c : Nat} {b : Option Addr} {d : Nat} {vs : List NdV} {ns : List Nd} {es : List Eg} (h : TS w x b3 (some ⟨G, 0, none⟩) c b d vs ns es) {k : Nat} (hk : k < ns.length) {pa : Option Addr} {pc : Nat}
    (hp : x.ownsRow 0 43 4 (.slice pa (ns.getD k Nd.none).ps.length pc) (ns.getD k Nd.none).ps.length (propR.flat (ns.getD k Nd.none).ps)) :
    TS w (x.setCell ⟨G, k * 2 + 1, none⟩ (.slice pa (ns.getD k Nd.none).ps.length pc)) b3 (some ⟨G, 0, none⟩) c b d (vs.set k ⟨(ns.getD k Nd.none).l, pa, (ns.getD k Nd.none).ps.length, pc⟩) ns es := by
  obtain ⟨G', cur, he, hBG, hG⟩ := nodes_block h.nodes (by omega)
  simp only [Option.some.injEq, Addr.mk.injEq, and_true] at he
  subst he
  have hlen := h.nodes.len
  have hl := (h.nodes.each k hk).1
  have hrow := h.nodes.row
  rw [hlen] at hrow
  obtain ⟨s1, -⟩ := hrow.stored (k * 2 + 1) (.slice pa (ns.getD k Nd.none).ps.length pc)
  have e := flat_set (R := nodeR) vs k 1 ⟨(ns.getD k Nd.none).l, pa, (ns.getD k Nd.none).ps.length, pc⟩ (.slice pa (ns.getD k Nd.none).ps.length pc) (by omega) (by decide) (by
    show ([.string (vs.getD k NdV.none).l, .slice _ _ _] : List Value).set 1 _ = _
    rw [hl]; rfl)
  refine ⟨h.below.setCell hBG _, box_setb h.box hG (by decide) _ _, box_setb h.out hG (by decide) _ _, ⟨?_, by simpa using hlen, fun i hi => ?_⟩, own_setb h.edges hG (by decide) _ _⟩
  · rw [List.length_set, ← e, hlen]
    exact s1
  · by_cases hik : i = k
    · subst hik
      have e1 : (vs.set i ⟨(ns.getD i Nd.none).l, pa, (ns.getD i Nd.none).ps.length, pc⟩).getD i NdV.none = ⟨(ns.getD i Nd.none).l, pa, (ns.getD i Nd.none).ps.length, pc⟩ := by simp [List.getD, hlen, hi]
      rw [e1]
      exact ⟨rfl, own_setb hp hG (by decide) _ _⟩
    · have e1 : (vs.set k ⟨(ns.getD k Nd.none).l, pa, (ns.getD k Nd.none).ps.length, pc⟩).getD i NdV.none = vs.getD i NdV.none := by simp [List.getD, Ne.symm hik]
      rw [e1]
      exact ⟨(h.nodes.each i hi).1, own_setb (h.nodes.each i hi).2 hG (by decide) _ _⟩
/-- An edge is turned. -/
theorem TS.edge {w x : World} {b3 : Nat} {a : Option Addr} {c : Nat} {E d : Nat} {vs : List NdV} {ns : List Nd} {es : List Eg} (h : TS w x b3 a c (some ⟨E, 0, none⟩) d vs ns es) {k : Nat} (hk : k < es.length) (f t : Int) :
    TS w ((x.setCell ⟨E, k * 4, none⟩ (.int .i64 f)).setCell ⟨E, k * 4 + 1, none⟩ (.int .i64 t)) b3 a c (some ⟨E, 0, none⟩) d vs ns (es.set k ⟨f, t, (es.getD k Eg.none).l, (es.getD k Eg.none).w⟩) := by
  obtain ⟨G', cur, he, hBG, hG⟩ := own_block h.edges (by omega)
  simp only [Option.some.injEq, Addr.mk.injEq, and_true] at he
  subst he
  obtain ⟨s1, -⟩ := h.edges.stored (k * 4) (.int .i64 f)
  obtain ⟨s3, -⟩ := s1.stored (k * 4 + 1) (.int .i64 t)
  have e1 := flat_set (R := edgeR) es k 0 ⟨f, (es.getD k Eg.none).t, (es.getD k Eg.none).l, (es.getD k Eg.none).w⟩ (.int .i64 f) hk (by decide) rfl
  have e2 := flat_set (R := edgeR) (es.set k ⟨f, (es.getD k Eg.none).t, (es.getD k Eg.none).l, (es.getD k Eg.none).w⟩) k 1 ⟨f, t, (es.getD k Eg.none).l, (es.getD k Eg.none).w⟩ (.int .i64 t) (by simpa using hk) (by decide) (by
    have : (es.set k ⟨f, (es.getD k Eg.none).t, (es.getD k Eg.none).l, (es.getD k Eg.none).w⟩).getD k edgeR.dflt = ⟨f, (es.getD k Eg.none).t, (es.getD k Eg.none).l, (es.getD k Eg.none).w⟩ := by simp [List.getD, hk]
    rw [this]; rfl)
  rw [List.set_set] at e2
  have hl2 : (es.set k ⟨f, t, (es.getD k Eg.none).l, (es.getD k Eg.none).w⟩).length = es.length := List.length_set ..
  have hG1 : ∃ cur', (x.setCell ⟨E, k * 4, none⟩ (.int .i64 f)).heap[E]? = some (.cells cur' 35 (0, 0)) := ⟨cur.setIfInBounds (k * 4) (.int .i64 f), by simp [World.setCell, Array.getElem?_modify, hG]⟩
  obtain ⟨cur', hG1⟩ := hG1
  have hst : ∀ {v : Value} {B te s n : Nat} {xs : List Value}, x.ownsRow B te s v n xs → te ≠ 35 → ((x.setCell ⟨E, k * 4, none⟩ (.int .i64 f)).setCell ⟨E, k * 4 + 1, none⟩ (.int .i64 t)).ownsRow B te s v n xs := fun h ht => own_setb (own_setb h hG ht _ _) hG1 ht _ _
  refine ⟨(h.below.setCell hBG _).setCell hBG _, ?_, box_setb (box_setb h.out hG (by decide) _ _) hG1 (by decide) _ _, ⟨hst h.nodes.row (by decide), h.nodes.len, fun i hi => ⟨(h.nodes.each i hi).1, hst (h.nodes.each i hi).2 (by decide)⟩⟩, ?_⟩
  · rw [hl2]
    exact box_setb (box_setb h.box hG (by decide) _ _) hG1 (by decide) _ _
  · rw [hl2, ← e2, ← e1]
    exact s3
/-- The same, in the other order. -/
theorem TS.edge2 {w x : World} {b3 : Nat} {a : Option Addr} {c : Nat} {E d : Nat} {vs : List NdV} {ns : List Nd} {es : List Eg} (h : TS w x b3 a c (some ⟨E, 0, none⟩) d vs ns es) {k : Nat} (hk : k < es.length) (f t : Int) :
    TS w ((x.setCell ⟨E, k * 4 + 1, none⟩ (.int .i64 t)).setCell ⟨E, k * 4, none⟩ (.int .i64 f)) b3 a c (some ⟨E, 0, none⟩) d vs ns (es.set k ⟨f, t, (es.getD k Eg.none).l, (es.getD k Eg.none).w⟩) := by
  obtain ⟨G', cur, he, hBG, hG⟩ := own_block h.edges (by omega)
  simp only [Option.some.injEq, Addr.mk.injEq, and_true] at he
  subst he
  obtain ⟨s1, -⟩ := h.edges.stored (k * 4 + 1) (.int .i64 t)
  obtain ⟨s3, -⟩ := s1.stored (k * 4) (.int .i64 f)
  have e1 := flat_set (R := edgeR) es k 1 ⟨(es.getD k Eg.none).f, t, (es.getD k Eg.none).l, (es.getD k Eg.none).w⟩ (.int .i64 t) hk (by decide) rfl
  have e2 := flat_set (R := edgeR) (es.set k ⟨(es.getD k Eg.none).f, t, (es.getD k Eg.none).l, (es.getD k Eg.none).w⟩) k 0 ⟨f, t, (es.getD k Eg.none).l, (es.getD k Eg.none).w⟩ (.int .i64 f) (by simpa using hk) (by decide) (by
    have : (es.set k ⟨(es.getD k Eg.none).f, t, (es.getD k Eg.none).l, (es.getD k Eg.none).w⟩).getD k edgeR.dflt = ⟨(es.getD k Eg.none).f, t, (es.getD k Eg.none).l, (es.getD k Eg.none).w⟩ := by simp [List.getD, hk]
    rw [this]; rfl)
  rw [List.set_set] at e2
  have hl2 : (es.set k ⟨f, t, (es.getD k Eg.none).l, (es.getD k Eg.none).w⟩).length = es.length := List.length_set ..
  have hG1 : ∃ cur', (x.setCell ⟨E, k * 4 + 1, none⟩ (.int .i64 t)).heap[E]? = some (.cells cur' 35 (0, 0)) := ⟨cur.setIfInBounds (k * 4 + 1) (.int .i64 t), by simp [World.setCell, Array.getElem?_modify, hG]⟩
  obtain ⟨cur', hG1⟩ := hG1
  have hst : ∀ {v : Value} {B te s n : Nat} {xs : List Value}, x.ownsRow B te s v n xs → te ≠ 35 → ((x.setCell ⟨E, k * 4 + 1, none⟩ (.int .i64 t)).setCell ⟨E, k * 4, none⟩ (.int .i64 f)).ownsRow B te s v n xs := fun h ht => own_setb (own_setb h hG ht _ _) hG1 ht _ _
  refine ⟨(h.below.setCell hBG _).setCell hBG _, ?_, box_setb (box_setb h.out hG (by decide) _ _) hG1 (by decide) _ _, ⟨hst h.nodes.row (by decide), h.nodes.len, fun i hi => ⟨(h.nodes.each i hi).1, hst (h.nodes.each i hi).2 (by decide)⟩⟩, ?_⟩
  · rw [hl2]
    exact box_setb (box_setb h.box hG (by decide) _ _) hG1 (by decide) _ _
  · rw [hl2, ← e2, ← e1]
    exact s3
end Go.Proofs.YtjgddkbpfpgaoacGreatDoor
/-
  A GRAPH WITH ITS EDGES TURNED ROUND, by contract: the walk.
-/
namespace Go.Proofs.YtjgddkbpfpgaoacGreatDoor
open Go.ChangeShapes Go.WideShapes Go.ChangeAt Go.RowKit

theorem own_row {α : Type} {R : Rec α} {w : World} {B t n c m : Nat} {a : Option Addr} {ps : List α} (h : w.ownsRow B t R.n (.slice a n c) m (R.flat ps)) (hm : m = ps.length) : RowAt w a (R.flat ps) ∧ (a = none → c = 0) := by
  subst hm
  obtain ⟨a', c', he, -, h0, -, hr⟩ := slR_of_owns h
  simp only [Value.slice.injEq] at he
  obtain ⟨rfl, _, rfl⟩ := he
  exact ⟨hr, h0⟩
/-- What a graph that is being turned shows. -/
theorem TS.len {w x : World} {b3 : Nat} {a : Option Addr} {c : Nat} {b : Option Addr} {d : Nat} {vs : List NdV} {ns : List Nd} {es : List Eg} (h : TS w x b3 a c b d vs ns es) : vs.length = ns.length := h.nodes.len
theorem TS.nodeAt {w x : World} {b3 : Nat} {a : Option Addr} {c : Nat} {b : Option Addr} {d : Nat} {vs : List NdV} {ns : List Nd} {es : List Eg} (h : TS w x b3 a c b d vs ns es) {k : Nat} (hk : k < ns.length) :
    ∃ G pa pc, a = some ⟨G, 0, none⟩ ∧ w.heap.size ≤ G ∧ G < x.heap.size ∧ ¬ G = b3 ∧ x.cell? ⟨G, k * 2, none⟩ = some (.string (ns.getD k Nd.none).l) ∧ x.cell? ⟨G, k * 2 + 1, none⟩ = some (.slice pa (ns.getD k Nd.none).ps.length pc) ∧ x.ownsRow 0 43 4 (.slice pa (ns.getD k Nd.none).ps.length pc) (ns.getD k Nd.none).ps.length (propR.flat (ns.getD k Nd.none).ps) := by
  obtain ⟨G, cur, rfl, hG, hh⟩ := nodes_block h.nodes (by omega)
  obtain ⟨hl, ho⟩ := h.nodes.each k hk
  obtain ⟨pa, pc, hs⟩ := own_shape ho
  have hlen := h.len
  obtain ⟨a', c', he, -, -, -, hr⟩ := slR_of_owns h.nodes.row
  simp only [Value.slice.injEq] at he
  obtain ⟨rfl, _, _⟩ := he
  obtain ⟨B, off, heq, hb, hc⟩ := rec_at hr (k := k) (by omega)
  simp only [Option.some.injEq, Addr.mk.injEq, and_true] at heq
  obtain ⟨rfl, rfl⟩ := heq
  have c0 := hc 0 _ rfl
  have c1 := hc 1 _ rfl
  change x.cell? ⟨G, 0 + k * 2 + 0, none⟩ = some (.string (vs.getD k NdV.none).l) at c0
  change x.cell? ⟨G, 0 + k * 2 + 1, none⟩ = some (.slice (vs.getD k NdV.none).a (vs.getD k NdV.none).n (vs.getD k NdV.none).c) at c1
  rw [Nat.zero_add] at c0 c1
  rw [hs] at c1 ho
  rw [hl] at c0
  refine ⟨G, pa, pc, rfl, hG, hb, fun e => ?_, c0, c1, ho⟩
  subst e
  have := h.box
  rw [hh] at this
  injection this with this
  injection this with _ h2 _
  revert h2
  decide
theorem TS.edgeAt {w x : World} {b3 : Nat} {a : Option Addr} {c : Nat} {b : Option Addr} {d : Nat} {vs : List NdV} {ns : List Nd} {es : List Eg} (h : TS w x b3 a c b d vs ns es) {k : Nat} (hk : k < es.length) :
    ∃ E, b = some ⟨E, 0, none⟩ ∧ w.heap.size ≤ E ∧ E < x.heap.size ∧ ¬ E = b3 ∧ x.cell? ⟨E, k * 4, none⟩ = some (.int .i64 (es.getD k Eg.none).f) ∧ x.cell? ⟨E, k * 4 + 1, none⟩ = some (.int .i64 (es.getD k Eg.none).t) ∧ x.cell? ⟨E, k * 4 + 2, none⟩ = some (.string (es.getD k Eg.none).l) ∧ x.cell? ⟨E, k * 4 + 3, none⟩ = some (.int .i64 (es.getD k Eg.none).w) ∧ (∀ j, x.frozen? ⟨E, j, none⟩ = false) := by
  obtain ⟨E, cur, rfl, hE, hh⟩ := own_block h.edges (by omega)
  obtain ⟨a', c', he, -, -, -, hr⟩ := slR_of_owns h.edges
  simp only [Value.slice.injEq] at he
  obtain ⟨rfl, _, _⟩ := he
  obtain ⟨B, off, heq, hb, c0, c1, c2, c3⟩ := edge_at hr hk
  simp only [Option.some.injEq, Addr.mk.injEq, and_true] at heq
  obtain ⟨rfl, rfl⟩ := heq
  rw [Nat.zero_add] at c0 c1 c2 c3
  refine ⟨E, rfl, hE, hb, fun e => ?_, c0, c1, c2, c3, fun j => by simp [World.frozen?, hh]⟩
  subst e
  have := h.box
  rw [hh] at this
  injection this with this
  injection this with _ h2 _
  revert h2
  decide
/-- The edges, so many of them turned. -/
def turnTo (es : List Eg) (k : Nat) : List Eg := (es.take k).map Eg.turn ++ es.drop k
theorem turnTo_len (es : List Eg) (k : Nat) : (turnTo es k).length = es.length := by simp [turnTo]; omega
theorem turnTo_at (es : List Eg) {k : Nat} (hk : k < es.length) : (turnTo es k).getD k Eg.none = es.getD k Eg.none := by
  simp [turnTo, List.getD, List.getElem?_append_right, Nat.min_eq_left (Nat.le_of_lt hk)]
theorem turnTo_next (es : List Eg) {k : Nat} (hk : k < es.length) : (turnTo es k).set k (es.getD k Eg.none).turn = turnTo es (k + 1) := by
  have hl : ((es.take k).map Eg.turn).length = k := by simp; omega
  unfold turnTo
  rw [List.set_append_right _ _ (by omega), hl, Nat.sub_self, take_snocR es Eg.none k hk, List.map_append, List.drop_eq_getElem_cons hk, List.set_cons_zero]
  simp [List.getD, hk]
theorem turnTo_all (es : List Eg) : turnTo es es.length = es.map Eg.turn := by simp [turnTo]
set_option maxRecDepth 100000 in
set_option maxHeartbeats 6400000 in
theorem turn_c (g : Gr) (vs : List NdV) (a : Option Addr) (n c : Nat) (b : Option Addr) (m d : Nat) (w : World) (hg : OwnG g vs a n c b m d w) (l1 : g.ns.length ≤ 1000000) (l2 : g.es.length ≤ 1000000) (l3 : ∀ x ∈ g.ns, x.ps.length ≤ 1000000) :
    Calls Tryz.prog 9 #[.agg #[.slice a n c, .slice b m d]] w fun e w' => ∃ (vs' : List NdV) (a' : Option Addr) (n' c' : Nat) (b' : Option Addr) (m' d' : Nat), e = .returned (.agg #[.slice a' n' c', .slice b' m' d']) ∧ OwnG g.turn vs' a' n' c' b' m' d' w' ∧ Below w.heap.size w w' := by
  obtain ⟨rfl, rfl⟩ := hg.len
  obtain ⟨⟨hgr, hgl, hge⟩, hgE⟩ := hg
  obtain ⟨hrN, h0N⟩ := own_row (R := nodeR) hgr rfl
  obtain ⟨hrE, h0E⟩ := own_row (R := edgeR) hgE rfl
  have hlv : vs.length = g.ns.length := hgl
  obtain ⟨w2, hw2⟩ : ∃ w2, Hid (w2 = (w.alloc (.cells #[.slice a g.ns.length c, .slice b g.es.length d] 25)).alloc (.cells #[.slice none 0 0, .slice none 0 0] 25)) := ⟨_, hidden rfl⟩
  have hB2 : Below w.heap.size w w2 := by
    rw [hw2.out]
    exact ((Below.refl _ _).alloc (Nat.le_refl _) _).alloc (by simp) _
  have hX : w2.heap[w.heap.size]? = some (.cells #[.slice a g.ns.length c, .slice b g.es.length d] 25) := by
    rw [hw2.out]
    exact heap_alloc_old (w.alloc (.cells #[.slice a g.ns.length c, .slice b g.es.length d] 25)) _ (by simp) |>.trans (heap_alloc_new w (.cells #[.slice a g.ns.length c, .slice b g.es.length d] 25))
  have hY : w2.heap[w.heap.size + 1]? = some (.cells #[.slice none 0 0, .slice none 0 0] 25) := by
    rw [hw2.out]
    have h := heap_alloc_new (w.alloc (.cells #[.slice a g.ns.length c, .slice b g.es.length d] 25)) (.cells #[.slice none 0 0, .slice none 0 0] 25)
    rwa [show (w.alloc (.cells #[.slice a g.ns.length c, .slice b g.es.length d] 25)).heap.size = w.heap.size + 1 by simp] at h
  have hs2 : Hid (w2.heap.size = w.heap.size + 2) := by show _ = _; rw [hw2.out]; simp
  obtain ⟨⟨x0, x1⟩, -⟩ := box2f hX
  have hcN := hidden fun (z : World) (hz : Below w2.heap.size w2 z) => hlv ▸ nclone_c a c vs z ((hrN.below hB2).below hz) (by omega) h0N
  have hcE := hidden fun (z : World) (hz : Below w2.heap.size w2 z) => eclone_c b d g.es z ((hrE.below hB2).below hz) (by omega) h0E
  have hpr : Hid (∀ i, i < g.ns.length → (vs.getD i NdV.none).l = (g.ns.getD i Nd.none).l ∧ w2.ownsRow 0 43 4 (.slice (vs.getD i NdV.none).a (vs.getD i NdV.none).n (vs.getD i NdV.none).c) (g.ns.getD i Nd.none).ps.length (propR.flat (g.ns.getD i Nd.none).ps)) := fun i hi => ⟨(hge i hi).1, owns_keep (hge i hi).2 hB2⟩
  obtain ⟨N, hN⟩ : ∃ N, N = g.ns.length := ⟨_, rfl⟩
  obtain ⟨M, hM⟩ : ∃ M, M = g.es.length := ⟨_, rfl⟩
  rw [← hN] at hcN x0 hX hw2 hlv ⊢
  rw [← hM] at hcE x1 hX hw2 ⊢
  clear hgr hgE hrN hrE h0N h0E hge hgl
  replace hN := hidden hN
  replace hM := hidden hM
  replace hlv := hidden hlv
  replace hX := hidden hX
  replace hY := hidden hY
  replace hB2 := hidden hB2
  replace l3 := hidden l3
  have kk := hidden (Below.refl w2.heap.size w2).drew
  have n1 := World.new_ne _ _ x0
  have n2 := World.new_ne _ _ x1
  go_enter Tryz.func9, Tryz.ntmps9
  go_wp2_with fail
  rw [← hw2.out]
  go_region_held3 (fun z => z.cell? ⟨w.heap.size, 0, none⟩ = some (.slice a N c) ∧ z.cell? ⟨w.heap.size, 1, none⟩ = some (.slice b M d)) (go_keep) (first
    | (go_at_call 20; refine (hcN.out _ (by first | exact kk.out | exact kk.out.alloc kk.out.size _)).mono ?_; rintro e za ⟨a1, c1, rfl, hoN, hBa⟩
       first | (have hq : Hid (za.heap[w2.heap.size]? = some (.cells #[.slice none 0 0, .slice none 0 0] 25)) := box_below (heap_alloc_new w2.drew (.cells #[.slice none 0 0, .slice none 0 0] 25)) hBa; obtain ⟨⟨r0, r1⟩, r2, r3⟩ := box2f hq.out) | skip
       have kk : Hid (Below w2.heap.size w2 za) := Below.trans (by first | exact kk.out | exact kk.out.alloc kk.out.size _) (hBa.mono (by first | exact kk.out.size | exact (kk.out.alloc kk.out.size _).size))
       have hoN := hidden hoN
       obtain ⟨⟨p0, p1⟩, -⟩ := box2f (box_below hX.out kk.out)
       have m1 := World.new_ne _ _ p0
       have hbk := hidden kk.out.size
       have hbA : Hid (w.heap.size ≤ za.heap.size) := by have h1 := kk.out.size; have h2 := hs2.out; show _ ≤ _; omega)
    | (go_at_call 21; refine (hcE.out _ (by first | exact kk.out | exact kk.out.alloc kk.out.size _)).mono ?_; rintro e zb ⟨b1, d1, rfl, hoE, hBb⟩
       first | (have hq : Hid (zb.heap[w2.heap.size]? = some (.cells #[.slice none 0 0, .slice none 0 0] 25)) := box_below hq.out hBb; obtain ⟨⟨r0, r1⟩, r2, r3⟩ := box2f hq.out) | (have hq : Hid (zb.heap[za.heap.size]? = some (.cells #[.slice none 0 0, .slice none 0 0] 25)) := box_below (heap_alloc_new za (.cells #[.slice none 0 0, .slice none 0 0] 25)) hBb; obtain ⟨⟨r0, r1⟩, r2, r3⟩ := box2f hq.out) | skip
       have kN : Hid (Below za.heap.size za zb) := by first | exact hBb | exact ((Below.refl za.heap.size za).alloc (Nat.le_refl _) _).trans (hBb.mono (by simp))
       have kk : Hid (Below w2.heap.size w2 zb) := Below.trans (by first | exact kk.out | exact kk.out.alloc kk.out.size _) (hBb.mono (by first | exact kk.out.size | exact (kk.out.alloc kk.out.size _).size))
       have hoE := hidden hoE
       obtain ⟨⟨q0, q1⟩, -⟩ := box2f (box_below hX.out kk.out)
       have m2 := World.new_ne _ _ q0)
    | fail)
  all_goals
    have hrowN : Hid (za.ownsRow w.heap.size 33 2 (.slice a1 N c1) N (nodeR.flat vs)) := own_le3 hoN.out (by have h2 := hs2.out; first | (simp; omega) | (show _ ≤ w2.heap.size; omega))
    have hrowE : Hid (zb.ownsRow w.heap.size 35 4 (.slice b1 M d1) M (edgeR.flat g.es)) := own_le3 hoE.out (by have h2 := hbA.out; first | exact h2 | (simp; omega))
    have hN3 : Hid (NodesAt w.heap.size (.slice a1 N c1) vs g.ns zb) := ⟨by rw [hlv.out]; exact owns_keep hrowN.out kN.out, by rw [hlv.out, hN.out], fun i hi => ⟨(hpr.out i hi).1, owns_keep (hpr.out i hi).2 kk.out⟩⟩
    have hY3 := hidden (box_below hY.out kk.out)
    have hB3 := hidden (hB2.out.trans (kk.out.mono hB2.out.size))
    have hgb : Hid (w.heap.size ≤ zb.heap.size ∧ w.heap.size ≤ za.heap.size ∧ w.heap.size ≤ w2.heap.size) := ⟨hB3.out.size, hbA.out, hB2.out.size⟩
    have hbA2 : Hid (w.heap.size + 2 ≤ za.heap.size) := by have h1 := hbk.out; have h2 := hs2.out; show _ ≤ _; omega
    clear kk kN hcN hcE x0 x1 n1 n2 m1 m2 p0 p1 q0 q1 hX hY hB2 hpr hrowN hoN hoE hbA
    first
      | (have hTS : Hid (TS w ((zb.setCell ⟨za.heap.size, 0, none⟩ (.slice a1 N c1)).setCell ⟨za.heap.size, 1, none⟩ (.slice b1 M d1)) za.heap.size a1 c1 b1 d1 vs g.ns g.es) := by
           have h1 := ts_set (a := a1) (c := c1) (b := b1) (d := d1) hB3.out hgb.out.2.1 (by have := hbA2.out; omega) hq.out hY3.out (by rw [← hN.out]; exact hN3.out) (by rw [← hM.out]; exact hrowE.out)
           rw [← hN.out, ← hM.out] at h1
           exact h1
         generalize (zb.setCell ⟨za.heap.size, 0, none⟩ (.slice a1 N c1)).setCell ⟨za.heap.size, 1, none⟩ (.slice b1 M d1) = x at hTS ⊢
         generalize za.heap.size = b3 at hTS ⊢)
      | (have hTS : Hid (TS w ((zb.setCell ⟨w2.heap.size, 0, none⟩ (.slice a1 N c1)).setCell ⟨w2.heap.size, 1, none⟩ (.slice b1 M d1)) w2.heap.size a1 c1 b1 d1 vs g.ns g.es) := by
           have h1 := ts_set (a := a1) (c := c1) (b := b1) (d := d1) hB3.out hgb.out.2.2 (by have := hs2.out; omega) hq.out hY3.out (by rw [← hN.out]; exact hN3.out) (by rw [← hM.out]; exact hrowE.out)
           rw [← hN.out, ← hM.out] at h1
           exact h1
         generalize (zb.setCell ⟨w2.heap.size, 0, none⟩ (.slice a1 N c1)).setCell ⟨w2.heap.size, 1, none⟩ (.slice b1 M d1) = x at hTS ⊢
         generalize w2.heap.size = b3 at hTS ⊢)
      | (have hTS : Hid (TS w (zb.alloc (.cells #[.slice a1 N c1, .slice b1 M d1] 25)) zb.heap.size a1 c1 b1 d1 vs g.ns g.es) :=
           ⟨hB3.out.alloc hB3.out.size _, by rw [← hN.out, ← hM.out]; exact heap_alloc_new _ _, heap_alloc_old zb _ (Array.getElem?_eq_some_iff.1 hY3.out).1 |>.trans hY3.out, by rw [← hN.out]; exact hN3.out.step ((Below.refl _ _).alloc (Nat.le_refl _) _), by rw [← hM.out]; exact hrowE.out.alloc _⟩
         generalize zb.alloc (.cells #[.slice a1 N c1, .slice b1 M d1] 25) = x at hTS ⊢
         generalize zb.heap.size = b3 at hTS ⊢)
    clear hN3 hY3 hB3 hgb hbA2 hbk hrowE hs2
    try clear hq r0 r1 r2 r3
    have hT0 : Hid (TS w x b3 a1 c1 b1 d1 vs g.ns (turnTo g.es 0)) := by show TS ..; rw [show turnTo g.es 0 = g.es by simp [turnTo]]; exact hTS.out
    have hbx : Hid (∀ (y : World) (vs' : List NdV) (k : Nat), TS w y b3 a1 c1 b1 d1 vs' g.ns (turnTo g.es k) → y.heap[b3]? = some (.cells #[.slice a1 N c1, .slice b1 M d1] 25)) := fun y vs' k h => by
      have h1 := h.box
      rwa [turnTo_len, ← hN.out, ← hM.out] at h1
    obtain ⟨⟨x0, x1⟩, -⟩ := box2f (hbx.out _ _ _ hT0.out)
    clear hTS
    go_wp2
    clear x0 x1
    go_loopw [18] (fun i y => ∃ (k : Nat) (vs' : List NdV), k ≤ N ∧ i = .int .i64 k ∧ Hid (TS w y b3 a1 c1 b1 d1 vs' g.ns (turnTo g.es 0))) (fun i _ => N - (intOf i).toNat)
    case atStart => exact ⟨0, vs, Nat.zero_le _, rfl, hT0⟩
    case round =>
      clear hT0
      obtain ⟨k, vs', hk, rfl, hT⟩ := hrel
      by_cases hlt : k < N
      · have hlt' : (k : Int) < (N : Int) := by omega
        have hlx : k < g.ns.length := by rw [← hN.out]; exact hlt
        obtain ⟨G, pa, pc, rfl, hG1, hG2, hG3, e0, e1, ho⟩ := hT.out.nodeAt hlx
        have hpl : (g.ns.getD k Nd.none).ps.length ≤ 1000000 := l3.out _ (by
          rw [show g.ns.getD k Nd.none = g.ns[k] by simp [List.getD, hlx]]
          exact List.getElem_mem _)
        have hstep := hidden fun (z : World) (h : TS w z b3 (some ⟨G, 0, none⟩) c1 b1 d1 vs' g.ns (turnTo g.es 0)) (qa : Option Addr) (qc : Nat) hp => h.node hlx (pa := qa) (pc := qc) hp
        obtain ⟨hpr, hp0⟩ := own_row (R := propR) ho rfl
        have hcP := fun z hz => pclone_c pa pc (g.ns.getD k Nd.none).ps z (hpr.below (w' := z) hz) hpl hp0
        obtain ⟨⟨x0, x1⟩, -⟩ := box2f (hbx.out _ _ _ hT.out)
        have z3 : b3 < wr.heap.size := (Array.getElem?_eq_some_iff.1 hT.out.box).1
        generalize (g.ns.getD k Nd.none).l = l at *
        generalize (g.ns.getD k Nd.none).ps = ps at *
        obtain ⟨P, hP⟩ : ∃ P, Hid (P = ps.length) := ⟨_, hidden rfl⟩
        rw [← hP.out] at e1 hcP hpl
        replace hcP := hidden hcP
        obtain ⟨wa, hwa⟩ : ∃ wa, Hid (wa = wr.alloc (.cells #[.string l, .slice pa P pc] 33)) := ⟨_, hidden rfl⟩
        have hBA : Hid (Below wr.heap.size wr wa) := by show Below ..; rw [hwa.out]; exact (Below.refl _ _).alloc (Nat.le_refl _) _
        have hpx : wa.heap[wr.heap.size]? = some (.cells #[.string l, .slice pa P pc] 33) := by rw [hwa.out]; exact heap_alloc_new _ _
        obtain ⟨⟨p0, p1⟩, -⟩ := box2f hpx
        obtain ⟨⟨y0, y1⟩, -⟩ := box2f (box_below (hbx.out _ _ _ hT.out) hBA.out)
        have hTA := hidden (hT.out.step hBA.out)
        replace hpx := hidden hpx
        have hbx2 := hidden (box_below (hbx.out _ _ _ hT.out) hBA.out)
        have kk : Hid (Below wa.heap.size wa wa.drew) := (Below.refl _ _).drew
        have n1 : ¬ G = wr.heap.size := by omega
        have n2 : ¬ wr.heap.size = G := by omega
        have n3 : ¬ b3 = G := fun e => hG3 e.symm
        clear ho hpr hp0 hT
        go_wp2_with fail
        rw [← hwa.out]
        go_region_held3 (fun z => z.cell? ⟨b3, 0, none⟩ = some (.slice (some ⟨G, 0, none⟩) N c1) ∧ z.cell? ⟨wr.heap.size, 1, none⟩ = some (.slice pa P pc)) (go_keep) (first
          | (go_at_call 22; refine (hcP.out _ (hBA.out.trans (kk.out.mono hBA.out.size))).mono ?_; rintro e z ⟨qa, qc, rfl, hoP, hBz⟩
             have kk : Hid (Below wa.heap.size wa z) := kk.out.trans (hBz.mono kk.out.size)
             have hoP := hidden hoP
             obtain ⟨⟨q0, q1⟩, -⟩ := box2f (box_below hpx.out kk.out)
             obtain ⟨⟨u0, u1⟩, -⟩ := box2f (box_below hbx2.out kk.out)
             have hTz := hidden (hTA.out.step kk.out)
             obtain ⟨G', cur, hGe, -, hGh⟩ := nodes_block hTz.out.nodes (by rw [← hN.out]; omega)
             simp only [Option.some.injEq, Addr.mk.injEq, and_true] at hGe
             subst hGe
             have hfr : z.frozen? ⟨G, k * 2 + 1, none⟩ = false := by simp [World.frozen?, hGh]
             have hce : ∃ v, z.cell? ⟨G, k * 2 + 1, none⟩ = some v := by
               obtain ⟨G2, pa2, pc2, hg2, -, -, -, -, hc2, -⟩ := hTz.out.nodeAt hlx
               simp only [Option.some.injEq, Addr.mk.injEq, and_true] at hg2
               subst hg2
               exact ⟨_, hc2⟩
             obtain ⟨v9, hce⟩ := hce)
          | fail)
        all_goals
          have hTn := hidden (hstep.out z hTz.out qa qc (by rw [← hP.out]; exact own0 hoP.out))
          rw [← hP.out] at hTn
          clear hTz hTA hstep hoP kk q0 q1 u0 u1 p0 p1 y0 y1 hcP hpx hbx2 hBA hGh hfr hce hP hwa e0 e1 x0 x1
          go_wp2
          go_roundw
          case rel => exact ⟨k + 1, _, by omega, by go_num, hTn⟩
          case measure => simp [intOf]; omega
      · have hlt' : ¬ (k : Int) < (N : Int) := by omega
        obtain ⟨⟨x0, x1⟩, -⟩ := box2f (hbx.out _ _ _ hT.out)
        go_wp2
        clear x0 x1
        go_loopw [35] (fun i y => ∃ k : Nat, k ≤ M ∧ i = .int .i64 k ∧ Hid (TS w y b3 a1 c1 b1 d1 vs' g.ns (turnTo g.es k))) (fun i _ => M - (intOf i).toNat)
        case atStart => exact ⟨0, Nat.zero_le _, rfl, hT⟩
        case round =>
          clear hT
          obtain ⟨j, hj, rfl, hT⟩ := hrel
          obtain ⟨⟨x0, x1⟩, -⟩ := box2f (hbx.out _ _ _ hT.out)
          by_cases hlt2 : j < M
          · have hlt2' : (j : Int) < (M : Int) := by omega
            have hlE : j < g.es.length := by rw [← hM.out]; exact hlt2
            have hlT : j < (turnTo g.es j).length := by rw [turnTo_len]; exact hlE
            obtain ⟨E, rfl, hE1, hE2, hE3, c0, c1', c2, c3, hfz⟩ := hT.out.edgeAt hlT
            have z3 : b3 < wr.heap.size := (Array.getElem?_eq_some_iff.1 hT.out.box).1
            have hnx : Hid (∀ (z : World), TS w z b3 a1 c1 (some ⟨E, 0, none⟩) d1 vs' g.ns (turnTo g.es j) → TS w ((z.setCell ⟨E, j * 4, none⟩ (.int .i64 (g.es.getD j Eg.none).t)).setCell ⟨E, j * 4 + 1, none⟩ (.int .i64 (g.es.getD j Eg.none).f)) b3 a1 c1 (some ⟨E, 0, none⟩) d1 vs' g.ns (turnTo g.es (j + 1)) ∧
                TS w ((z.setCell ⟨E, j * 4 + 1, none⟩ (.int .i64 (g.es.getD j Eg.none).f)).setCell ⟨E, j * 4, none⟩ (.int .i64 (g.es.getD j Eg.none).t)) b3 a1 c1 (some ⟨E, 0, none⟩) d1 vs' g.ns (turnTo g.es (j + 1))) := fun z h => by
              have h1 := h.edge hlT (g.es.getD j Eg.none).t (g.es.getD j Eg.none).f
              have h2 := h.edge2 hlT (g.es.getD j Eg.none).t (g.es.getD j Eg.none).f
              rw [turnTo_at g.es hlE] at h1 h2
              have e := turnTo_next g.es hlE
              unfold Eg.turn at e
              rw [e] at h1 h2
              exact ⟨h1, h2⟩
            rw [turnTo_at g.es hlE] at c0 c1' c2 c3
            generalize g.es.getD j Eg.none = q at *
            obtain ⟨qf, qt, ql, qw⟩ := q
            simp only at c0 c1' c2 c3 hnx
            obtain ⟨wa, hwa⟩ : ∃ wa, Hid (wa = wr.alloc (.cells #[.int .i64 qf, .int .i64 qt, .string ql, .int .i64 qw] 35)) := ⟨_, hidden rfl⟩
            have hBA : Hid (Below wr.heap.size wr wa) := by show Below ..; rw [hwa.out]; exact (Below.refl _ _).alloc (Nat.le_refl _) _
            have hpx : wa.heap[wr.heap.size]? = some (.cells #[.int .i64 qf, .int .i64 qt, .string ql, .int .i64 qw] 35) := by rw [hwa.out]; exact heap_alloc_new _ _
            obtain ⟨⟨p0, p1, p2, p3⟩, -⟩ := box4f hpx
            obtain ⟨⟨y0, y1⟩, -⟩ := box2f (box_below (hbx.out _ _ _ hT.out) hBA.out)
            have d0 := (hBA.out.cell (p := ⟨E, j * 4, none⟩) hE2).trans c0
            have d1' := (hBA.out.cell (p := ⟨E, j * 4 + 1, none⟩) hE2).trans c1'
            have hTA := hidden (hT.out.step hBA.out)
            have hblk := hBA.out.block E hE2
            have f0 : wa.frozen? ⟨E, j * 4, none⟩ = false := by have := hfz (j * 4); unfold World.frozen? at this ⊢; rw [hblk]; exact this
            have f1 : wa.frozen? ⟨E, j * 4 + 1, none⟩ = false := by have := hfz (j * 4 + 1); unfold World.frozen? at this ⊢; rw [hblk]; exact this
            have n1 : ¬ E = wr.heap.size := by omega
            have n2 : ¬ wr.heap.size = E := by omega
            have n3 : ¬ b3 = E := fun e => hE3 e.symm
            clear hblk hfz hT hBA hpx
            go_wp2_with fail
            rw [← hwa.out]
            clear c0 c1' c2 c3 x0 x1
            go_region_held3 (fun z => z.cell? ⟨b3, 1, none⟩ = some (.slice (some ⟨E, 0, none⟩) M d1) ∧ z.cell? ⟨wr.heap.size, 0, none⟩ = some (.int .i64 qf) ∧ z.cell? ⟨wr.heap.size, 1, none⟩ = some (.int .i64 qt)) (go_keep) (fail)
            all_goals
              have hTn := hidden ((hnx.out wa hTA.out).1.step (Below.refl _ _).drew)
              clear hTA hnx p0 p1 p2 p3 y0 y1 d0 d1' f0 f1 hwa
              go_wp2
              go_roundw
              case rel => exact ⟨j + 1, by omega, by go_num, hTn⟩
              case measure => simp [intOf]; omega
          · have hlt2' : ¬ (j : Int) < (M : Int) := by omega
            have hTe : TS w wr b3 a1 c1 b1 d1 vs' g.ns g.turn.es := by
              have h := hT.out
              rwa [show j = g.es.length by rw [← hM.out]; omega, turnTo_all] at h
            have hml : (g.es.map Eg.turn).length = M := by rw [List.length_map, ← hM.out]
            obtain ⟨⟨o0, o1⟩, o2, o3⟩ := box2f hTe.out
            have hn := hTe.nodes
            have he := hTe.edges
            rw [← hN.out] at hn
            rw [show g.turn.es.length = M from hml] at he
            have hfin := hidden (set_heap (set_heap hTe.out 0 (.slice a1 N c1)) 1 (.slice b1 M d1))
            have hOwn : Hid (OwnG g.turn vs' a1 N c1 b1 M d1 ((wr.setCell ⟨w.heap.size + 1, 0, none⟩ (.slice a1 N c1)).setCell ⟨w.heap.size + 1, 1, none⟩ (.slice b1 M d1))) := by
              have h9 := (hn.set hTe.out 0 (.slice a1 N c1)).set (set_heap hTe.out 0 (.slice a1 N c1)) 1 (.slice b1 M d1)
              have h8 := own0 (own_set (own_set he hTe.out (by decide) 0 (.slice a1 N c1)) (set_heap hTe.out 0 (.slice a1 N c1)) (by decide) 1 (.slice b1 M d1))
              refine ⟨⟨own0 h9.row, h9.len, h9.each⟩, ?_⟩
              rw [show g.turn.es.length = M from hml]
              exact h8
            have hBF := hidden ((hTe.below.setCell (p := ⟨w.heap.size + 1, 0, none⟩) (show w.heap.size ≤ w.heap.size + 1 by omega) (.slice a1 N c1)).setCell (p := ⟨w.heap.size + 1, 1, none⟩) (show w.heap.size ≤ w.heap.size + 1 by omega) (.slice b1 M d1))
            clear hTe hT hn he
            go_wp2
            exact bodyPost_ret (results_cell_row rfl _ _ (w.heap.size + 1) _ _ _ _ rfl hfin.out Tryz.underlying25 rfl (by kernel_rfl)) rfl ⟨vs', a1, N, c1, b1, M, d1, rfl, hOwn.out, hBF.out⟩
end Go.Proofs.YtjgddkbpfpgaoacGreatDoor
