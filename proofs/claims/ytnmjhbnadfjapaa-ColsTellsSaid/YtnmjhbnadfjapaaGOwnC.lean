/-
  AN EDGE THAT IS CHECKED: the program's, by contract.
-/
import Derived.Test.YtnmjhbnadfjapaaGNode
namespace Go.Proofs.Ytnmjhbnadfjapaa
open Go.ChangeShapes Go.WideShapes Go.ChangeAt Go.RowKit

theorem edgeE_name {n : Nat} {f t : Int} {l : ByteArray} {w : Int} (h : nameB l = false) : edgeE n ⟨f, t, l, w⟩ = 2 := by simp [edgeE, h]
theorem edgeE_arg {n : Nat} {f t : Int} {l : ByteArray} {w : Int} (h : nameB l = true) (hx : f < 0 ∨ (n : Int) ≤ f ∨ t < 0 ∨ (n : Int) ≤ t ∨ w < 0 ∨ 1000000 < w) : edgeE n ⟨f, t, l, w⟩ = 1 := by simp only [edgeE, h, if_true]; rw [if_pos hx]
theorem edgeE_ok {n : Nat} {f t : Int} {l : ByteArray} {w : Int} (h : nameB l = true) (hx : ¬ (f < 0 ∨ (n : Int) ≤ f ∨ t < 0 ∨ (n : Int) ≤ t ∨ w < 0 ∨ 1000000 < w)) : edgeE n ⟨f, t, l, w⟩ = 0 := by simp only [edgeE, h, if_true]; rw [if_neg hx]
set_option maxHeartbeats 3200000 in
set_option maxRecDepth 100000 in
theorem cedge_c (f t : Int) (l : ByteArray) (wt : Int) (n : Nat) (w : World) (hs : l.size ≤ 1000) :
    Calls Try.prog 65 #[.agg #[.int .i64 f, .int .i64 t, .string l, .int .i64 wt], .int .i64 (n : Int)] w fun e w' => e = .returned (.int .i64 (edgeE n ⟨f, t, l, wt⟩)) ∧ Below w.heap.size w w' := by
  have hnm := fun x => name_c l x hs
  have hX := heap_alloc_new w (.cells #[.int .i64 f, .int .i64 t, .string l, .int .i64 wt] 85)
  have hB0 : Hid (Below w.heap.size w (w.alloc (.cells #[.int .i64 f, .int .i64 t, .string l, .int .i64 wt] 85))) := (Below.refl _ _).alloc (Nat.le_refl _) _
  obtain ⟨⟨b0, b1, b2, b3⟩, -⟩ := box4f hX
  clear hX
  cases hl : nameB l with
  | false =>
    have hE := hidden (edgeE_name (n := n) (f := f) (t := t) (w := wt) hl)
    rw [show decide (nameS l) = false from hl] at hnm
    replace hl := hidden hl
    go_enter Try.func65, Try.ntmps65
    go_wp2_with fail
    refine (hnm _).mono ?_
    rintro e z ⟨rfl, rfl⟩
    go_wp2
    go_ret
    exact ⟨by rw [hE.out]; first | done | rfl, hB0.out⟩
  | true =>
    rw [show decide (nameS l) = true from hl] at hnm
    replace hl := hidden hl
    by_cases hx : f < 0 ∨ (n : Int) ≤ f ∨ t < 0 ∨ (n : Int) ≤ t ∨ wt < 0 ∨ 1000000 < wt
    · have hE := hidden (edgeE_arg hl.out hx)
      replace hx := hidden hx
      go_enter Try.func65, Try.ntmps65
      go_wp2_with fail
      refine (hnm _).mono ?_
      rintro e z ⟨rfl, rfl⟩
      go_wp2
      all_goals
        go_ret
        first
          | exact ⟨by rw [hE.out]; first | done | rfl, hB0.out⟩
          | (exfalso; have h9 := hx.out; omega)
    · have hE := hidden (edgeE_ok hl.out hx)
      have x1 : ¬ f < 0 := fun h => hx (by omega)
      have x2 : ¬ (n : Int) ≤ f := fun h => hx (by omega)
      have x3 : ¬ t < 0 := fun h => hx (by omega)
      have x4 : ¬ (n : Int) ≤ t := fun h => hx (by omega)
      have x5 : ¬ wt < 0 := fun h => hx (by omega)
      have x6 : ¬ 1000000 < wt := fun h => hx (by omega)
      clear hx
      go_enter Try.func65, Try.ntmps65
      go_wp2_with fail
      refine (hnm _).mono ?_
      rintro e z ⟨rfl, rfl⟩
      go_wp2
      go_ret
      exact ⟨by rw [hE.out]; first | done | rfl, hB0.out⟩
end Go.Proofs.Ytnmjhbnadfjapaa
/-
  A GRAPH THAT IS CHECKED: the program's, by contract.
-/
namespace Go.Proofs.Ytnmjhbnadfjapaa
open Go.ChangeShapes Go.WideShapes Go.ChangeAt Go.RowKit

def Gr.sm (g : Gr) : Prop := g.ns.length ≤ 1000 ∧ (∀ x ∈ g.ns, x.sm) ∧ g.es.length ≤ 1000 ∧ ∀ x ∈ g.es, x.l.size ≤ 1000
/-- A graph in memory of its own. -/
structure OwnG (g : Gr) (vs : List NdV) (a : Option Addr) (n c : Nat) (b : Option Addr) (m d : Nat) (x : World) : Prop where
  nodes : NodesAt 0 (.slice a n c) vs g.ns x
  edges : x.ownsRow 0 85 4 (.slice b m d) g.es.length (edgeR.flat g.es)
theorem OwnG.calm {g : Gr} {vs : List NdV} {a : Option Addr} {n c : Nat} {b : Option Addr} {m d : Nat} {x y : World} (h : OwnG g vs a n c b m d x) (hB : Below x.heap.size x y) : OwnG g vs a n c b m d y := ⟨h.nodes.step hB, owns_keep h.edges hB⟩
theorem OwnG.len {g : Gr} {vs : List NdV} {a : Option Addr} {n c : Nat} {b : Option Addr} {m d : Nat} {x : World} (h : OwnG g vs a n c b m d x) : n = g.ns.length ∧ m = g.es.length := by
  obtain ⟨⟨h1, h2, _⟩, h3⟩ := h
  obtain ⟨_, _, he⟩ := own_shape h1
  obtain ⟨_, _, hf⟩ := own_shape h3
  simp only [Value.slice.injEq] at he hf
  exact ⟨by rw [he.2.1, h2], hf.2.1⟩
/-- A node of it. -/
theorem OwnG.node {g : Gr} {vs : List NdV} {a : Option Addr} {n c : Nat} {b : Option Addr} {m d : Nat} {x : World} (h : OwnG g vs a n c b m d x) {k : Nat} (hk : k < g.ns.length) :
    ∃ B off pa pn pc, a = some ⟨B, off, none⟩ ∧ B < x.heap.size ∧ x.cell? ⟨B, off + k * 2, none⟩ = some (.string (g.ns.getD k Nd.none).l) ∧ x.cell? ⟨B, off + k * 2 + 1, none⟩ = some (.slice pa pn pc) ∧ SlR propR x (.slice pa pn pc) (g.ns.getD k Nd.none).ps := by
  obtain ⟨⟨h1, h2, h3⟩, _⟩ := h
  obtain ⟨a', c', he, -, -, -, hr⟩ := slR_of_owns h1
  simp only [Value.slice.injEq] at he
  obtain ⟨rfl, _, _⟩ := he
  obtain ⟨B, off, rfl, hb, hc⟩ := rec_at hr (k := k) (by omega)
  obtain ⟨hl, hp⟩ := h3 k hk
  refine ⟨B, off, (vs.getD k NdV.none).a, (vs.getD k NdV.none).n, (vs.getD k NdV.none).c, rfl, hb, ?_, hc 1 _ rfl, slR_of_owns hp⟩
  rw [← hl]
  exact hc 0 _ rfl
theorem OwnG.edge {g : Gr} {vs : List NdV} {a : Option Addr} {n c : Nat} {b : Option Addr} {m d : Nat} {x : World} (h : OwnG g vs a n c b m d x) : RowAt x b (edgeR.flat g.es) := by
  obtain ⟨a', c', he, -, -, -, hr⟩ := slR_of_owns h.edges
  simp only [Value.slice.injEq] at he
  obtain ⟨rfl, _, _⟩ := he
  exact hr
theorem getD_memG {α : Type} {xs : List α} {d : α} {k : Nat} (h : k < xs.length) : xs.getD k d ∈ xs := by
  rw [show xs.getD k d = xs[k] by simp [List.getD, h]]
  exact List.getElem_mem _
theorem all_to {α : Type} {f : α → Int} {d : α} {xs : List α} {k : Nat} (h : ∀ j, j < k → f (xs.getD j d) = 0) (hk : f (xs.getD k d) = 0) : ∀ j, j < k + 1 → f (xs.getD j d) = 0 := fun j hj => by
  rcases Nat.lt_or_ge j k with h2 | h2
  · exact h j h2
  · obtain rfl : j = k := by omega
    exact hk
set_option maxHeartbeats 6400000 in
set_option maxRecDepth 100000 in
theorem check_c (g : Gr) (vs : List NdV) (a : Option Addr) (n c : Nat) (b : Option Addr) (m d : Nat) (w : World) (hg : OwnG g vs a n c b m d w) (hs : g.sm) :
    Calls Try.prog 40 #[.agg #[.slice a n c, .slice b m d]] w fun e w' => e = .returned (.tuple #[.int .i64 (checkG g).1, .int .i64 (checkG g).2]) ∧ Below w.heap.size w w' := by
  obtain ⟨rfl, rfl⟩ := hg.len
  obtain ⟨s1, s2, s3, s4⟩ := hs
  replace hg := hidden hg
  replace s2 := hidden s2
  replace s4 := hidden s4
  have hX := hidden (heap_alloc_new w (.cells #[.slice a g.ns.length c, .slice b g.es.length d] 25))
  have hB0 : Hid (Below w.heap.size w (w.alloc (.cells #[.slice a g.ns.length c, .slice b g.es.length d] 25))) := (Below.refl _ _).alloc (Nat.le_refl _) _
  obtain ⟨⟨b0, b1⟩, -⟩ := box2f hX.out
  go_enter Try.func40, Try.ntmps40
  go_wp2_with fail
  clear b0 b1
  go_loopw [23] (fun i x => ∃ k : Nat, k ≤ g.ns.length ∧ i = .int .i64 k ∧ Hid (∀ j, j < k → nodeE (g.ns.getD j Nd.none) = 0) ∧ Hid (Below w.heap.size w x) ∧ Hid (x.heap[w.heap.size]? = some (.cells #[.slice a g.ns.length c, .slice b g.es.length d] 25))) (fun i _ => g.ns.length - (intOf i).toNat)
  case atStart => exact ⟨0, Nat.zero_le _, rfl, fun j h => by omega, hB0, hX⟩
  case round =>
    clear hX hB0
    obtain ⟨k, hk, rfl, ht, hB, hX⟩ := hrel
    by_cases hlt : k < g.ns.length
    · have hgx := hg.out.calm hB.out
      obtain ⟨b5, o5, pa, pn, pc, rfl, hb5, c0, c1, hps⟩ := hgx.node hlt
      have hno := hidden (checkG_node k hlt ht.out)
      have hnx := hidden (all_to (f := nodeE) (d := Nd.none) ht.out)
      have hsm : Hid (g.ns.getD k Nd.none).sm := s2.out _ (getD_memG hlt)
      clear hgx
      generalize g.ns.getD k Nd.none = nd at *
      obtain ⟨nl, nps⟩ := nd
      simp only at c0 hps
      have hcall : ∀ z, Below wr.heap.size wr z → Calls Try.prog 64 #[.agg #[.string nl, .slice pa pn pc]] z fun e w' => e = .returned (.int .i64 (nodeE ⟨nl, nps⟩)) ∧ Below z.heap.size z w' := fun z hz => cnode_c nl nps pa pn pc z (hps.below hz) hsm.out
      have hi1 : (k : Int) < (g.ns.length : Int) := by omega
      have hcA := hcall _ ((Below.refl _ _).alloc (Nat.le_refl _) (.cells #[.string nl, .slice pa pn pc] 44))
      have hXA := hidden ((heap_alloc_old wr (.cells #[.string nl, .slice pa pn pc] 44) (Array.getElem?_eq_some_iff.1 hX.out).1).trans hX.out)
      have hBA : Hid (Below w.heap.size w (wr.alloc (.cells #[.string nl, .slice pa pn pc] 44))) := hB.out.alloc hB.out.size _
      obtain ⟨⟨p0, p1⟩, -⟩ := box2f (heap_alloc_new wr (.cells #[.string nl, .slice pa pn pc] 44))
      generalize nodeE ⟨nl, nps⟩ = E at *
      clear hcall hps hsm hB hX
      go_wp2_with fail
      refine hcA.mono ?_
      rintro e w5 ⟨rfl, hB5⟩
      have hBL : Hid (Below w.heap.size w w5) := hBA.out.trans (hB5.mono hBA.out.size)
      have hX5 := hidden (box_below hXA.out hB5)
      clear hcA hB5 hBA hXA c0 c1 p0 p1
      by_cases hE : E = 0
      · have hnx2 := hidden (hnx.out hE)
        have g1 : (E != 0) = false := by simp [hE]
        replace hE := hidden hE
        clear hno hnx
        go_wp2
        go_roundw
        case rel => exact ⟨k + 1, by omega, by go_num, hnx2, hBL, hX5⟩
        case measure => simp [intOf]; omega
      · have hno2 := hidden (hno.out hE)
        have g1 : (E != 0) = true := by simp [hE]
        have e1 := hidden (congrArg Prod.fst hno2.out)
        have e2 := hidden (congrArg Prod.snd hno2.out)
        replace hE := hidden hE
        clear hno hnx
        go_wp2
        go_ret2
        exact ⟨by rw [e1.out, e2.out]; first | done | rfl, hBL.out⟩
    · obtain rfl : k = g.ns.length := by omega
      obtain ⟨⟨b0, b1⟩, -⟩ := box2f hX.out
      have hi1 : ¬ (g.ns.length : Int) < (g.ns.length : Int) := by omega
      go_wp2_with fail
      clear b0 b1
      go_loopw [39] (fun i x => ∃ k : Nat, k ≤ g.es.length ∧ i = .int .i64 k ∧ Hid (∀ j, j < k → edgeE g.ns.length (g.es.getD j Eg.none) = 0) ∧ Hid (Below w.heap.size w x) ∧ Hid (x.heap[w.heap.size]? = some (.cells #[.slice a g.ns.length c, .slice b g.es.length d] 25))) (fun i _ => g.es.length - (intOf i).toNat)
      case atStart => exact ⟨0, Nat.zero_le _, rfl, fun j h => by omega, hB, hX⟩
      case round =>
        clear hX hB
        obtain ⟨k, hk, rfl, ht2, hB, hX⟩ := hrel
        obtain ⟨⟨b0, b1⟩, -⟩ := box2f hX.out
        by_cases hlt : k < g.es.length
        · obtain ⟨b5, o5, rfl, hb5, e0, e1, e2, e3⟩ := edge_at (hg.out.calm hB.out).edge hlt
          have hno := hidden (checkG_edge ht.out k hlt ht2.out)
          have hnx := hidden (all_to (f := edgeE g.ns.length) (d := Eg.none) ht2.out)
          have hsm : Hid ((g.es.getD k Eg.none).l.size ≤ 1000) := s4.out _ (getD_memG hlt)
          generalize g.es.getD k Eg.none = q at *
          obtain ⟨qf, qt, ql, qw⟩ := q
          simp only at e0 e1 e2 e3
          have hi2 : (k : Int) < (g.es.length : Int) := by omega
          have hcA := cedge_c qf qt ql qw g.ns.length (wr.alloc (.cells #[.int .i64 qf, .int .i64 qt, .string ql, .int .i64 qw] 85)) hsm.out
          have hXA := hidden ((heap_alloc_old wr (.cells #[.int .i64 qf, .int .i64 qt, .string ql, .int .i64 qw] 85) (Array.getElem?_eq_some_iff.1 hX.out).1).trans hX.out)
          have hBA : Hid (Below w.heap.size w (wr.alloc (.cells #[.int .i64 qf, .int .i64 qt, .string ql, .int .i64 qw] 85))) := hB.out.alloc hB.out.size _
          obtain ⟨⟨p0, p1, p2, p3⟩, -⟩ := box4f (heap_alloc_new wr (.cells #[.int .i64 qf, .int .i64 qt, .string ql, .int .i64 qw] 85))
          obtain ⟨⟨q0, q1⟩, -⟩ := box2f hXA.out
          generalize edgeE g.ns.length ⟨qf, qt, ql, qw⟩ = E at *
          clear hsm hB hX b0 b1
          go_wp2_with fail
          refine hcA.mono ?_
          rintro e w5 ⟨rfl, hB5⟩
          have hBL : Hid (Below w.heap.size w w5) := hBA.out.trans (hB5.mono hBA.out.size)
          have hX5 := hidden (box_below hXA.out hB5)
          clear hcA hB5 hBA hXA e0 e1 e2 e3 p0 p1 p2 p3 q0 q1
          obtain ⟨⟨b0, b1⟩, -⟩ := box2f hX5.out
          by_cases hE : E = 0
          · have hnx2 := hidden (hnx.out hE)
            have g1 : (E != 0) = false := by simp [hE]
            replace hE := hidden hE
            clear hno hnx
            go_wp2
            go_roundw
            case rel => exact ⟨k + 1, by omega, by go_num, hnx2, hBL, hX5⟩
            case measure => simp [intOf]; omega
          · have hno2 := hidden (hno.out hE)
            have g1 : (E != 0) = true := by simp [hE]
            have e1 := hidden (congrArg Prod.fst hno2.out)
            have e2 := hidden (congrArg Prod.snd hno2.out)
            replace hE := hidden hE
            clear hno hnx
            go_wp2
            go_ret2
            exact ⟨by rw [e1.out, e2.out]; first | done | rfl, hBL.out⟩
        · obtain rfl : k = g.es.length := by omega
          have hok := hidden (checkG_ok ht.out ht2.out)
          have e1 := hidden (congrArg Prod.fst hok.out)
          have e2 := hidden (congrArg Prod.snd hok.out)
          have hi2 : ¬ (g.es.length : Int) < (g.es.length : Int) := by omega
          clear ht ht2
          go_wp2
          go_ret2
          exact ⟨by rw [e1.out, e2.out]; first | done | rfl, hB.out⟩
end Go.Proofs.Ytnmjhbnadfjapaa
/-
  A GRAPH IN MEMORY OF ITS OWN: cut again, and kept. No function but Few is named here.
-/
namespace Go.Proofs.Ytnmjhbnadfjapaa
open Go.ChangeShapes Go.WideShapes Go.ChangeAt Go.RowKit

theorem cutB_few {s : ByteArray} {m : Nat} : cutB (cutB s m) m = cutB s m := by
  have h := cutB_size s m
  exact if_neg (by omega)
theorem Pp.few_few (p : Pp) : p.few.few = p.few := by simp [Pp.few, cutB_few]
theorem Nd.few_few (x : Nd) : x.few.few = x.few := by
  simp only [Nd.few, cutB_few, ← List.map_take, List.take_take, Nat.min_self, List.map_map]
  congr 1
  exact List.map_congr_left fun p _ => Pp.few_few p
theorem Eg.few_few (x : Eg) : x.few.few = x.few := by simp [Eg.few, cutB_few]
theorem Gr.few_few (g : Gr) : g.few.few = g.few := by
  simp only [Gr.few, ← List.map_take, List.take_take, Nat.min_self, List.map_map]
  congr 1
  · exact List.map_congr_left fun p _ => Nd.few_few p
  · exact List.map_congr_left fun p _ => Eg.few_few p
theorem Gr.few_sm (g : Gr) : g.few.sm := by
  refine ⟨by simp [Gr.few]; omega, fun x hx => ?_, by simp [Gr.few]; omega, fun x hx => ?_⟩
  · obtain ⟨y, _, rfl⟩ := List.mem_map.1 hx
    refine ⟨by have := cutB_size y.l 35; simp [Nd.few]; omega, by simp [Nd.few]; omega, fun p hp => ?_⟩
    obtain ⟨q, _, rfl⟩ := List.mem_map.1 hp
    exact ⟨by have := cutB_size q.s 35; simp [Pp.few]; omega, by have := cutB_size q.t 120; simp [Pp.few]; omega⟩
  · obtain ⟨y, _, rfl⟩ := List.mem_map.1 hx
    have := cutB_size y.l 35
    simp [Eg.few]; omega
theorem OwnG.holds {g : Gr} {vs : List NdV} {a : Option Addr} {n c : Nat} {b : Option Addr} {m d : Nat} {x : World} (h : OwnG g vs a n c b m d x) : HoldsG x (.slice a n c) (.slice b m d) g := ⟨h.nodes.holds, holdsR_of_owns h.edges⟩
theorem OwnG.set {g : Gr} {vs : List NdV} {a : Option Addr} {n c : Nat} {b : Option Addr} {m d : Nat} {x : World} {B : Nat} {cs : Array Value} (h : OwnG g vs a n c b m d x) (hb : x.heap[B]? = some (.cells cs 25)) (j : Nat) (v : Value) : OwnG g vs a n c b m d (x.setCell ⟨B, j, none⟩ v) :=
  ⟨h.nodes.set hb j v, own_set h.edges hb (by decide) _ _⟩
theorem OwnG.keep {g : Gr} {vs : List NdV} {a : Option Addr} {n c : Nat} {b : Option Addr} {m d : Nat} {x y : World} (h : OwnG g vs a n c b m d x) (hc : GoX.Calm x y) : OwnG g vs a n c b m d y := by
  have key : ∀ {B t s k : Nat} {v : Value} {xs : List Value}, x.ownsRow B t s v k xs → y.ownsRow B t s v k xs := fun {B t s k v xs} h => by
    refine ⟨h.1, ?_⟩
    rcases h.2 with h2 | ⟨g, cap, cur, h1, h2, h3, h4⟩
    · exact .inl h2
    · exact .inr ⟨g, cap, cur, h1, h2, (hc.block g (Array.getElem?_eq_some_iff.1 h3).1).trans h3, h4⟩
  exact ⟨⟨key h.nodes.row, h.nodes.len, fun i hi => ⟨(h.nodes.each i hi).1, key (h.nodes.each i hi).2⟩⟩, key h.edges⟩
theorem box_calm {x y : World} {b : Nat} {o : Obj} (h : x.heap[b]? = some o) (hc : GoX.Calm x y) : y.heap[b]? = some o := (hc.block _ (Array.getElem?_eq_some_iff.1 h).1).trans h
/-- A graph that is as cut as it may be, in memory of its own, is copied. -/
theorem gfewO_c (g : Gr) (vs : List NdV) (a : Option Addr) (n c : Nat) (b : Option Addr) (m d : Nat) (w : World) (hg : OwnG g vs a n c b m d w) (hf : g.few = g) (hs : g.sm) :
    Calls Try.prog 7 #[.agg #[.slice a n c, .slice b m d]] w fun e w' => ∃ (us : List NdV) (a' : Option Addr) (n' c' : Nat) (b' : Option Addr) (m' d' : Nat), e = .returned (.agg #[.slice a' n' c', .slice b' m' d']) ∧ OwnG g us a' n' c' b' m' d' w' ∧ GoX.Calm w w' :=
  (gfew_c g _ _ w hg.holds (by have := hs.1; omega) (by have := hs.2.2.1; omega) (fun x hx => by have := (hs.2.1 x hx).2.1; omega)).mono fun e w' ⟨us, a', n', c', b', m', d', he, h1, h2, hB⟩ => by
    rw [hf] at h1 h2
    exact ⟨us, a', n', c', b', m', d', he, ⟨h1, h2⟩, .of_below hB⟩
end Go.Proofs.Ytnmjhbnadfjapaa
