/-
  A MARK COPIED, by contract.
-/
import Derived.Test.YtnecfgmbfkocnaeGreatRelCut
import Derived.Test.YtnecfgmbfkocnaeGreatOpenIL
import Derived.Test.YtnecfgmbfkocnaeGreatCalms
import Derived.Deep.RegionHeld3
import Derived.Deep.AppendLies
namespace Go.Proofs.YtnecfgmbfkocnaeGreat
open Go.ChangeShapes Go.WideShapes Go.ChangeAt Go.RowKit
open Rel

structure Mk where
  told : Int
  over : Bool
  nodes : List Int
  rest : Int
  items : List It
def mkV (m : Mk) (nv iv : Value) : Value := .agg #[.int .i64 m.told, .bool m.over, nv, .int .u64 m.rest, iv]
def Mk.few (m : Mk) : Mk := ⟨m.told, m.over, m.nodes.take 14, m.rest, (m.items.take 4).map fun y => y.few 5⟩

theorem act_norm (a : Act) (n : Nat) (hs : a.tmps.size = n) (hd : a.defers = []) : a = { tmps := ((List.range n).map fun t => a.tmps.getD t undef).toArray, defers := [] } := by
  obtain ⟨t, d⟩ := a
  simp only at hs hd
  subst hd
  congr 1
  apply Array.ext'
  apply List.ext_getElem?
  intro j
  by_cases hj : j < n
  · have h1 : j < t.size := by omega
    rw [Array.getElem?_toList, Array.getElem?_eq_getElem h1]
    simp [List.getElem?_range hj, Array.getD_eq_getD_getElem?, Array.getElem?_eq_getElem h1]
  · rw [Array.getElem?_toList, Array.getElem?_eq_none (by omega)]
    exact (List.getElem?_eq_none (by simp; omega)).symm
theorem range38 : List.range 38 = [0, 1, 2, 3, 4, 5, 6, 7, 8, 9, 10, 11, 12, 13, 14, 15, 16, 17, 18, 19, 20, 21, 22, 23, 24, 25, 26, 27, 28, 29, 30, 31, 32, 33, 34, 35, 36, 37] := rfl
theorem box5 {x : World} {b : Nat} {c0 c1 c2 c3 c4 : Value} {t : TypeId} (h : x.heap[b]? = some (.cells #[c0, c1, c2, c3, c4] t)) :
    x.cell? ⟨b, 0, none⟩ = some c0 ∧ x.cell? ⟨b, 1, none⟩ = some c1 ∧ x.cell? ⟨b, 2, none⟩ = some c2 ∧ x.cell? ⟨b, 3, none⟩ = some c3 ∧ x.cell? ⟨b, 4, none⟩ = some c4 := by
  simp [World.cell?, h]
theorem box5f {x : World} {b : Nat} {c0 c1 c2 c3 c4 : Value} {t : TypeId} (h : x.heap[b]? = some (.cells #[c0, c1, c2, c3, c4] t)) :
    (x.cell? ⟨b, 0, none⟩ = some c0 ∧ x.cell? ⟨b, 1, none⟩ = some c1 ∧ x.cell? ⟨b, 2, none⟩ = some c2 ∧ x.cell? ⟨b, 3, none⟩ = some c3 ∧ x.cell? ⟨b, 4, none⟩ = some c4) ∧
    x.frozen? ⟨b, 0, none⟩ = false ∧ x.frozen? ⟨b, 1, none⟩ = false ∧ x.frozen? ⟨b, 2, none⟩ = false ∧ x.frozen? ⟨b, 3, none⟩ = false ∧ x.frozen? ⟨b, 4, none⟩ = false := by
  simp [World.cell?, World.frozen?, h]
theorem own0 {w : World} {B t s n : Nat} {v : Value} {xs : List Value} (h : w.ownsRow B t s v n xs) : w.ownsRow 0 t s v n xs := by
  obtain ⟨hl, h⟩ := h
  refine ⟨hl, ?_⟩
  rcases h with h | ⟨g, cap, cur, h1, _, h3⟩
  · exact .inl h
  · exact .inr ⟨g, cap, cur, h1, Nat.zero_le _, h3⟩
theorem own_shape {w : World} {B t s n : Nat} {v : Value} {xs : List Value} (h : w.ownsRow B t s v n xs) : ∃ a c, v = .slice a n c := by
  rcases h.2 with ⟨rfl, h0⟩ | ⟨g, cap, cur, rfl, _⟩
  · exact ⟨none, 0, by rw [h0]⟩
  · exact ⟨_, _, rfl⟩
theorem ne_types {w : World} {b c : Nat} {x y : Array Value} {t u : TypeId} (h1 : w.heap[b]? = some (.cells x t)) (h2 : w.heap[c]? = some (.cells y u)) (ht : t ≠ u) : b ≠ c := fun e => by
  subst e
  rw [h1] at h2
  injection h2 with h2
  injection h2 with _ h2 _
  exact ht h2
theorem set_oth {w : World} {g b : Nat} {o : Obj} (h : w.heap[b]? = some o) (hne : g ≠ b) (j : Nat) (u : Value) : (w.setCell ⟨g, j, none⟩ u).heap[b]? = some o := by
  simp [World.setCell, Array.getElem?_modify, hne, h]
theorem own_set {w : World} {B te s n b : Nat} {v : Value} {xs : List Value} {cs : Array Value} {tb : TypeId} (h : w.ownsRow B te s v n xs) (hb : w.heap[b]? = some (.cells cs tb)) (ht : te ≠ tb) (j : Nat) (u : Value) : (w.setCell ⟨b, j, none⟩ u).ownsRow B te s v n xs := by
  obtain ⟨hl, h⟩ := h
  refine ⟨hl, ?_⟩
  rcases h with h | ⟨g, cap, cur, h1, h2, h3, h4⟩
  · exact .inl h
  · exact .inr ⟨g, cap, cur, h1, h2, set_oth h3 (ne_types hb h3 (Ne.symm ht)) j u, h4⟩
theorem own_keep {w w' : World} {B te s n : Nat} {v : Value} {xs : List Value} (h : w.ownsRow B te s v n xs) (hB : Below w.heap.size w w') : w'.ownsRow B te s v n xs := by
  obtain ⟨hl, h⟩ := h
  refine ⟨hl, ?_⟩
  rcases h with h | ⟨g, cap, cur, h1, h2, h3, h4⟩
  · exact .inl h
  · exact .inr ⟨g, cap, cur, h1, h2, (hB.block _ (Array.getElem?_eq_some_iff.1 h3).1).trans h3, h4⟩
theorem set_heap {x : World} {b : Nat} {cs : Array Value} {t : TypeId} (h : x.heap[b]? = some (.cells cs t)) (j : Nat) (v : Value) : (x.setCell ⟨b, j, none⟩ v).heap[b]? = some (.cells (cs.setIfInBounds j v) t) := heap_setI h j v

/-- What an operation hands on. -/
inductive Dm
  | eq (v : Value)
  | row (zs : List Int)
  | built (m : Mk) (zs : List Int)
  | fresh (b : Nat)
def Dm.den : Dm → Value → World → Prop
  | .eq u, v, _ => v = u
  | .row zs, v, x => x.ownsRow 0 3 1 v zs.length (zs.map (Value.int .i64))
  | .built m zs, v, x => ∃ nv, v = .agg #[.int .i64 m.told, .bool m.over, nv, .int .u64 m.rest, .slice none 0 0] ∧ x.ownsRow 0 3 1 nv zs.length (zs.map (Value.int .i64))
  | .fresh b, v, x => ∃ O, v = .pointer (some ⟨O, 0, none⟩) ∧ b < O ∧ x.heap[O]? = some (.cells #[.int .i64 0, .bool false, .slice none 0 0, .int .u64 0, .slice none 0 0] 26)
theorem Dm.step {d : Dm} {v : Value} {x y : World} (h : d.den v x) (hB : Below x.heap.size x y) : d.den v y := by
  cases d with
  | eq u => exact h
  | row zs => exact own_keep h hB
  | built m zs =>
    obtain ⟨nv, h1, h2⟩ := h
    exact ⟨nv, h1, own_keep h2 hB⟩
  | fresh b =>
    obtain ⟨O, h1, h2, h3⟩ := h
    exact ⟨O, h1, h2, (hB.block _ (Array.getElem?_eq_some_iff.1 h3).1).trans h3⟩
/-- The two boxes, and what came in. -/
structure C1 (m : Mk) (na ia : Option Addr) (nc ic : Nat) (w x : World) : Prop where
  below : Below w.heap.size w x
  bx : x.heap[w.heap.size]? = some (.cells #[.int .i64 m.told, .bool m.over, .slice na m.nodes.length nc, .int .u64 m.rest, .slice ia m.items.length ic] 26)
  br : x.heap[w.heap.size + 1]? = some (.cells #[.int .i64 0, .bool false, .slice none 0 0, .int .u64 0, .slice none 0 0] 26)
  nodes : Holds w (.slice na m.nodes.length nc) (m.nodes.map (Value.int .i64))
theorem C1.step {m : Mk} {na ia : Option Addr} {nc ic : Nat} {w x y : World} (h : C1 m na ia nc ic w x) (hB : Below x.heap.size x y) : C1 m na ia nc ic w y :=
  ⟨h.below.trans (hB.mono h.below.size), (hB.block _ (Array.getElem?_eq_some_iff.1 h.bx).1).trans h.bx, (hB.block _ (Array.getElem?_eq_some_iff.1 h.br).1).trans h.br, h.nodes⟩
/-- .. and the copy, its items not yet in it. -/
structure P1 (zs : List Int) (m : Mk) (na ia : Option Addr) (nc ic : Nat) (w x : World) (O : Nat) (na1 : Option Addr) (nc1 : Nat) : Prop where
  c : C1 m na ia nc ic w x
  o : x.heap[O]? = some (.cells #[.int .i64 m.told, .bool m.over, .slice na1 zs.length nc1, .int .u64 m.rest, .slice none 0 0] 26)
  lt : w.heap.size + 1 < O
  own : x.ownsRow 0 3 1 (.slice na1 zs.length nc1) zs.length (zs.map (Value.int .i64))
theorem P1.of {zs : List Int} {m : Mk} {na ia : Option Addr} {nc ic : Nat} {w x : World} {O : Nat} {na1 : Option Addr} {nc1 : Nat} {c0 c1 c2 c3 c4 : Value} (hc : C1 m na ia nc ic w x) (hO : w.heap.size + 1 < O) (hb : x.heap[O]? = some (.cells #[c0, c1, c2, c3, c4] 26))
    (hn : x.ownsRow 0 3 1 (.slice na1 zs.length nc1) zs.length (zs.map (Value.int .i64))) :
    P1 zs m na ia nc ic w (((((x.setCell ⟨O, 0, none⟩ (.int .i64 m.told)).setCell ⟨O, 1, none⟩ (.bool m.over)).setCell ⟨O, 2, none⟩ (.slice na1 zs.length nc1)).setCell ⟨O, 3, none⟩ (.int .u64 m.rest)).setCell ⟨O, 4, none⟩ (.slice none 0 0)) O na1 nc1 := by
  have ht : 3 ≠ 26 := by decide
  have b1 := set_heap hb 0 (.int .i64 m.told)
  have b2 := set_heap b1 1 (.bool m.over)
  have b3 := set_heap b2 2 (.slice na1 zs.length nc1)
  have b4 := set_heap b3 3 (.int .u64 m.rest)
  have b5 := set_heap b4 4 (.slice none 0 0)
  have n0 : O ≠ w.heap.size := by omega
  have n1 : O ≠ w.heap.size + 1 := by omega
  refine ⟨⟨?_, ?_, ?_, hc.nodes⟩, by simpa using b5, hO, own_set (own_set (own_set (own_set (own_set hn hb ht _ _) b1 ht _ _) b2 ht _ _) b3 ht _ _) b4 ht _ _⟩
  · exact ((((hc.below.setCell (by show _ ≤ O; omega) _).setCell (by show _ ≤ O; omega) _).setCell (by show _ ≤ O; omega) _).setCell (by show _ ≤ O; omega) _).setCell (by show _ ≤ O; omega) _
  · exact set_oth (set_oth (set_oth (set_oth (set_oth hc.bx n0 _ _) n0 _ _) n0 _ _) n0 _ _) n0 _ _
  · exact set_oth (set_oth (set_oth (set_oth (set_oth hc.br n1 _ _) n1 _ _) n1 _ _) n1 _ _) n1 _ _

/-- What lies in every round. -/
structure L1 (zs : List Int) (m : Mk) (na ia : Option Addr) (nc ic : Nat) (w : World) (O : Nat) (na1 : Option Addr) (nc1 : Nat) (k : Nat) (iv : Value) (xs : List Value) (x : World) : Prop where
  below : Below w.heap.size w x
  bx : x.heap[w.heap.size]? = some (.cells #[.int .i64 m.told, .bool m.over, .slice na m.nodes.length nc, .int .u64 m.rest, .slice ia m.items.length ic] 26)
  br : x.heap[w.heap.size + 1]? = some (.cells #[.int .i64 0, .bool false, .slice none 0 0, .int .u64 0, .slice none 0 0] 26)
  o : x.heap[O]? = some (.cells #[.int .i64 m.told, .bool m.over, .slice na1 zs.length nc1, .int .u64 m.rest, iv] 26)
  lt : w.heap.size + 1 < O
  own : x.ownsRow 0 3 1 (.slice na1 zs.length nc1) zs.length (zs.map (Value.int .i64))
  items : x.ownsRow w.heap.size 39 4 iv (m.items.take k).length xs
  its : ItsIn 3 x xs ((m.items.take k).map fun y => y.few 5)
theorem L1.step {zs : List Int} {m : Mk} {na ia : Option Addr} {nc ic : Nat} {w : World} {O : Nat} {na1 : Option Addr} {nc1 k : Nat} {iv : Value} {xs : List Value} {x y : World} (h : L1 zs m na ia nc ic w O na1 nc1 k iv xs x) (hB : Below x.heap.size x y) : L1 zs m na ia nc ic w O na1 nc1 k iv xs y :=
  ⟨h.below.trans (hB.mono h.below.size), (hB.block _ (Array.getElem?_eq_some_iff.1 h.bx).1).trans h.bx, (hB.block _ (Array.getElem?_eq_some_iff.1 h.br).1).trans h.br, (hB.block _ (Array.getElem?_eq_some_iff.1 h.o).1).trans h.o, h.lt, own_keep h.own hB, own_keep h.items hB, h.its.kept hB⟩
theorem L1.start {zs : List Int} {m : Mk} {na ia : Option Addr} {nc ic : Nat} {w : World} {O : Nat} {na1 : Option Addr} {nc1 : Nat} {x : World} (h : P1 zs m na ia nc ic w x O na1 nc1) : L1 zs m na ia nc ic w O na1 nc1 0 (.slice none 0 0) [] x :=
  ⟨h.c.below, h.c.bx, h.c.br, h.o, h.lt, h.own, World.ownsRow_nil .., .nil⟩

theorem step_wp {P : Program} {ops : Array Oper} {o : Oper} {a : Act} {w : World} {K : Act → World → Prop} {Q : Exit → Act → World → Prop} {E : Prop} (hg : o.guard = none) (h : o.wp P a w K Q) : if Region.wanted o (yielded ops a.tmps) = true then Oper.wp P o a w K Q else E := by
  have hw : Region.wanted o (yielded ops a.tmps) = true := by simp [Region.wanted, hg]
  rw [if_pos hw]
  exact h
theorem infoItM : (Tryz.prog.info? 39).map (fun i => (i.zero, i.size, i.bytes)) = some (some (.agg #[.int .i64 0, .slice none 0 0, .int .i64 0, .int .i64 0]), 4, 48) := by kernel_rfl
theorem cell_four_newM (w : World) (a b c d : Value) (t : TypeId) : ∀ j u, [a, b, c, d][j]? = some u → (w.alloc (.cells #[a, b, c, d] t)).cell? ((⟨w.heap.size, 0, none⟩ : Addr).add j) = some u := by
  intro j u hj
  have e : (w.alloc (.cells #[a, b, c, d] t)).heap[w.heap.size]? = some (.cells #[a, b, c, d] t) := by
    show (w.heap.push _)[w.heap.size]? = _
    simp
  rw [add_plainI, Nat.zero_add]
  simp only [World.cell?, e]
  simpa using hj
theorem take_snocY0 (ys : List It) (k : Nat) (hk : k < ys.length) : ys.take (k + 1) = ys.take k ++ [ys.getD k It.none] := by
  rw [List.take_add_one, List.getElem?_eq_getElem hk]; simp [List.getD, hk]
theorem ItsIn.setBox {ti : TypeId} {w : World} {b : Nat} {cs : Array Value} {tb : TypeId} {xs : List Value} {ys : List It} (h : ItsIn ti w xs ys) (hb : w.heap[b]? = some (.cells cs tb)) (ht : ti ≠ tb) (j : Nat) (u : Value) : ItsIn ti (w.setCell ⟨b, j, none⟩ u) xs ys := by
  induction h with
  | nil => exact .nil
  | snoc _ hn ih => exact .snoc ih (own_set hn hb ht j u)
theorem its_atM {w : World} {a : Option Addr} {ys : List It} (h : ys = [] ∨ ∃ b off, a = some ⟨b, off, none⟩ ∧ b < w.heap.size ∧ ∀ j, j < ys.length → ∃ nv, ItAt w b (off + j * 4) (ys.getD j It.none) nv) {k : Nat} (hk : k < ys.length) :
    ∃ b off nv, a = some ⟨b, off, none⟩ ∧ ItAt w b (off + k * 4) (ys.getD k It.none) nv := by
  rcases h with rfl | ⟨b, off, h1, _, h3⟩
  · exact absurd hk (by simp)
  · obtain ⟨nv, h⟩ := h3 k hk
    exact ⟨b, off, nv, h1, h⟩
theorem row_ne {w : World} {B te s n b : Nat} {v : Value} {xs : List Value} {cs : Array Value} {tb : TypeId} (h : w.ownsRow B te s v n xs) (hb : w.heap[b]? = some (.cells cs tb)) (ht : te ≠ tb) : v.ownBlock ≠ some b := fun e => by
  rcases h.2 with ⟨rfl, _⟩ | ⟨g, cap, cur, rfl, _, h3, _⟩
  · cases e
  · simp only [Value.ownBlock, Option.some.injEq] at e
    subst e
    rw [h3] at hb
    injection hb with hb
    injection hb with _ hb _
    exact ht hb
theorem row_grown {w w' : World} {B1 B2 t1 t2 s1 s2 n1 n2 : Nat} {v1 v2 : Value} {xs1 xs2 : List Value} (h1 : w.ownsRow B1 t1 s1 v1 n1 xs1) (h2 : w.ownsRow B2 t2 s2 v2 n2 xs2) (ht : t1 ≠ t2) (hg : w.grownBy w' v2.ownBlock) : w'.ownsRow B1 t1 s1 v1 n1 xs1 := by
  obtain ⟨hl, h⟩ := h1
  refine ⟨hl, ?_⟩
  rcases h with h | ⟨g, cap, cur, e1, e2, e3, e4⟩
  · exact .inl h
  · exact .inr ⟨g, cap, cur, e1, e2, (hg.block g (Array.getElem?_eq_some_iff.1 e3).1 (Ne.symm (row_ne h2 e3 ht.symm))).trans e3, e4⟩
theorem grown_cell {x y : World} {row : Option Nat} {p : Addr} {v : Value} (hg : x.grownBy y row) (hp : x.cell? p = some v) (hne : row ≠ some p.block) : y.cell? p = some v :=
  (World.cell?_of_block (hg.block _ (World.block_lt_of_cell? _ _ hp) (Ne.symm hne))).trans hp
/-- The copy, done. -/
structure Fin (zs : List Int) (m : Mk) (w : World) (iv : Value) (its : List It) (na1 : Option Addr) (nc1 : Nat) (xs : List Value) (x : World) : Prop where
  res : x.heap[w.heap.size + 1]? = some (.cells #[.int .i64 m.told, .bool m.over, .slice na1 zs.length nc1, .int .u64 m.rest, iv] 26)
  own : x.ownsRow 0 3 1 (.slice na1 zs.length nc1) zs.length (zs.map (Value.int .i64))
  items : x.ownsRow w.heap.size 39 4 iv its.length xs
  its : ItsIn 3 x xs (its.map fun y => y.few 5)
  below : Below w.heap.size w x
theorem L1.done {zs : List Int} {m : Mk} {na ia : Option Addr} {nc ic : Nat} {w : World} {O : Nat} {na1 : Option Addr} {nc1 k : Nat} {iv : Value} {xs : List Value} {x : World} (h : L1 zs m na ia nc ic w O na1 nc1 k iv xs x) :
    Fin zs m w iv (m.items.take k) na1 nc1 xs (((((x.setCell ⟨w.heap.size + 1, 0, none⟩ (.int .i64 m.told)).setCell ⟨w.heap.size + 1, 1, none⟩ (.bool m.over)).setCell ⟨w.heap.size + 1, 2, none⟩ (.slice na1 zs.length nc1)).setCell ⟨w.heap.size + 1, 3, none⟩ (.int .u64 m.rest)).setCell ⟨w.heap.size + 1, 4, none⟩ iv) := by
  have ht : 3 ≠ 26 := by decide
  have ht2 : 39 ≠ 26 := by decide
  have b1 := set_heap h.br 0 (.int .i64 m.told)
  have b2 := set_heap b1 1 (.bool m.over)
  have b3 := set_heap b2 2 (.slice na1 zs.length nc1)
  have b4 := set_heap b3 3 (.int .u64 m.rest)
  have b5 := set_heap b4 4 iv
  refine ⟨by simpa using b5, own_set (own_set (own_set (own_set (own_set h.own h.br ht _ _) b1 ht _ _) b2 ht _ _) b3 ht _ _) b4 ht _ _, own_set (own_set (own_set (own_set (own_set h.items h.br ht2 _ _) b1 ht2 _ _) b2 ht2 _ _) b3 ht2 _ _) b4 ht2 _ _,
    ((((h.its.setBox h.br ht _ _).setBox b1 ht _ _).setBox b2 ht _ _).setBox b3 ht _ _).setBox b4 ht _ _, ?_⟩
  exact ((((h.below.setCell (by show _ ≤ w.heap.size + 1; omega) _).setCell (by show _ ≤ w.heap.size + 1; omega) _).setCell (by show _ ≤ w.heap.size + 1; omega) _).setCell (by show _ ≤ w.heap.size + 1; omega) _).setCell (by show _ ≤ w.heap.size + 1; omega) _
theorem L1.afterO {zs : List Int} {m : Mk} {na ia : Option Addr} {nc ic : Nat} {w : World} {O : Nat} {na1 : Option Addr} {nc1 k : Nat} {iv : Value} {xs : List Value} {x y : World} {o : Obj} (h : L1 zs m na ia nc ic w O na1 nc1 k iv xs x) (hg : (x.alloc o).grownBy y iv.ownBlock) : y.cell? ⟨O, 4, none⟩ = some iv := by
  have hA := h.step (y := x.alloc o) ((Below.refl _ _).alloc (Nat.le_refl _) _)
  exact grown_cell hg (box5f hA.o).1.2.2.2.2 (row_ne hA.items hA.o (by decide))
theorem L1.afterF {zs : List Int} {m : Mk} {na ia : Option Addr} {nc ic : Nat} {w : World} {O : Nat} {na1 : Option Addr} {nc1 k : Nat} {iv : Value} {xs : List Value} {x y : World} {o : Obj} (h : L1 zs m na ia nc ic w O na1 nc1 k iv xs x) (hg : (x.alloc o).grownBy y iv.ownBlock) : y.frozen? ⟨O, 4, none⟩ = false := by
  have hA := h.step (y := x.alloc o) ((Below.refl _ _).alloc (Nat.le_refl _) _)
  exact (box5f ((hg.block _ (Array.getElem?_eq_some_iff.1 hA.o).1 (Ne.symm (row_ne hA.items hA.o (by decide)))).trans hA.o)).2.2.2.2.2
theorem L1.afterB {zs : List Int} {m : Mk} {na ia : Option Addr} {nc ic : Nat} {w : World} {O : Nat} {na1 : Option Addr} {nc1 k : Nat} {iv : Value} {xs : List Value} {x y : World} {o : Obj} (h : L1 zs m na ia nc ic w O na1 nc1 k iv xs x) (hg : (x.alloc o).grownBy y iv.ownBlock) : y.cell? ⟨w.heap.size, 4, none⟩ = some (.slice ia m.items.length ic) := by
  have hA := h.step (y := x.alloc o) ((Below.refl _ _).alloc (Nat.le_refl _) _)
  exact grown_cell hg (box5f hA.bx).1.2.2.2.2 (row_ne hA.items hA.bx (by decide))
theorem L1.afterI {zs : List Int} {m : Mk} {na ia : Option Addr} {nc ic : Nat} {w : World} {O : Nat} {na1 : Option Addr} {nc1 k : Nat} {iv : Value} {xs : List Value} {x y : World} {o : Obj} (h : L1 zs m na ia nc ic w O na1 nc1 k iv xs x) (hg : (x.alloc o).grownBy y iv.ownBlock) {b j : Nat} (hb : b < w.heap.size) {u : Value} (hp : x.cell? ⟨b, j, none⟩ = some u) : y.cell? ⟨b, j, none⟩ = some u := by
  have hA := h.step (y := x.alloc o) ((Below.refl _ _).alloc (Nat.le_refl _) _)
  exact grown_cell hg ((World.cell?_alloc_lt _ _ _ (World.block_lt_of_cell? _ _ hp)).trans hp) fun e => absurd hb (Nat.not_lt.2 (hA.items.lt _ e).1)
theorem L1.next {zs : List Int} {m : Mk} {na ia : Option Addr} {nc ic : Nat} {w : World} {O : Nat} {na1 : Option Addr} {nc1 k : Nat} {iv : Value} {xs : List Value} {x x2 : World} {v' nv' : Value} {y : It} {o : Obj} (h : L1 zs m na ia nc ic w O na1 nc1 k iv xs x)
    (hy : m.items.getD k It.none = y) (hk : k < m.items.length) (hrow : x.ownsRow 0 3 1 nv' (y.few 5).l.length ((y.few 5).l.map (Value.int .i64)))
    (hown : x2.ownsRow w.heap.size 39 4 v' ((m.items.take k).length + 1) (xs ++ cellsI (y.few 5) nv')) (hg : (x.alloc o).grownBy x2 iv.ownBlock) :
    L1 zs m na ia nc ic w O na1 nc1 (k + 1) v' (xs ++ cellsI (y.few 5) nv') (x2.setCell ⟨O, 4, none⟩ v') := by
  have ht : 3 ≠ 26 := by decide
  have ht2 : 39 ≠ 26 := by decide
  have ht3 : 3 ≠ 39 := by decide
  have hA := h.step (y := x.alloc o) ((Below.refl _ _).alloc (Nat.le_refl _) _)
  have hB := hA.below.grown hg hA.below.size (fun j hj => (hA.items.lt j hj).1)
  have hbx := (hg.block _ (Array.getElem?_eq_some_iff.1 hA.bx).1 (Ne.symm (row_ne hA.items hA.bx ht2))).trans hA.bx
  have hbr := (hg.block _ (Array.getElem?_eq_some_iff.1 hA.br).1 (Ne.symm (row_ne hA.items hA.br ht2))).trans hA.br
  have hbo := (hg.block _ (Array.getElem?_eq_some_iff.1 hA.o).1 (Ne.symm (row_ne hA.items hA.o ht2))).trans hA.o
  have hr2 := own_keep hrow ((Below.refl _ _).alloc (Nat.le_refl _) o)
  have hi2 : ItsIn 3 x2 (xs ++ cellsI (y.few 5) nv') ((m.items.take (k + 1)).map fun y => y.few 5) := by
    rw [take_snocY0 _ _ hk, hy, List.map_append]
    exact ((hA.its).snoc hr2).grown hA.items ht3 hg
  have hlen : (m.items.take (k + 1)).length = (m.items.take k).length + 1 := by simp [List.length_take]; omega
  have n0 : O ≠ w.heap.size := by have := h.lt; omega
  have n1 : O ≠ w.heap.size + 1 := by have := h.lt; omega
  refine ⟨hB.setCell (by show _ ≤ O; have := h.lt; omega) _, set_oth hbx n0 _ _, set_oth hbr n1 _ _, by simpa using set_heap hbo 4 v', h.lt, own_set (row_grown hA.own hA.items ht3 hg) hbo ht _ _, ?_, hi2.setBox hbo ht _ _⟩
  rw [hlen]
  exact own_set hown hbo ht2 _ _

set_option maxHeartbeats 6400000 in
set_option maxRecDepth 100000 in
theorem mark_c (m : Mk) (nv iv : Value) (w : World) (hn : Holds w nv (m.nodes.map (Value.int .i64))) (hi : HoldsIL w iv m.items) (hzn : m.nodes.length ≤ 9223372036854775807) (_hzi : m.items.length ≤ 9223372036854775807) (hzz : ∀ y ∈ m.items, y.l.length ≤ 9223372036854775807) :
    Calls Tryz.prog 4 #[mkV m nv iv] w fun e w' => ∃ nv' iv', e = .returned (mkV m.few nv' iv') ∧ w'.ownsRow 0 3 1 nv' m.few.nodes.length (m.few.nodes.map (Value.int .i64)) ∧
      (∃ xs, w'.ownsRow 0 39 4 iv' m.few.items.length xs ∧ ItsIn 3 w' xs m.few.items) ∧ Below w.heap.size w w' := by
  obtain ⟨zs, hzs⟩ : ∃ zs, Hid (zs = m.few.nodes) := ⟨_, (rfl : _ = _)⟩
  rw [← hzs.out]
  have hfew := fun v x h => few_c v m.nodes 14 x h hzn (by omega)
  rw [show m.nodes.take 14 = zs from hzs.out.symm] at hfew
  have hih := hidden hi
  obtain ⟨ia, ic, rfl, -⟩ := hi
  have hnh := hidden hn
  obtain ⟨na, nc, rfl, -⟩ := hn
  simp only [List.length_map] at hnh hih ⊢
  obtain ⟨wb, hwb⟩ : ∃ wb, wb = (w.alloc (.cells #[.int .i64 m.told, .bool m.over, .slice na m.nodes.length nc, .int .u64 m.rest, .slice ia m.items.length ic] 26)).alloc (.cells #[.int .i64 0, .bool false, .slice none 0 0, .int .u64 0, .slice none 0 0] 26) := ⟨_, rfl⟩
  have hc1 : C1 m na ia nc ic w wb := by
    rw [hwb]
    exact ⟨((Below.refl _ _).alloc (Nat.le_refl _) _).alloc (by show _ ≤ (w.heap.push _).size; simp) _, heap2_old _ _ _, heap2_new _ _ _, hnh.out⟩
  replace hwb := hidden hwb
  unfold mkV
  go_enter Tryz.func4, Tryz.ntmps4
  go_wp2_with fail
  rw [← hwb.out]
  refine Code.wp_mono (Q := fun e a' x => ∃ u5 u6 u7 u8 u9 u10 u11 u12 u13 u14 O na1 nc1, e = Exit.normal ∧ a' = ({ tmps := #[(.agg #[.int .i64 m.told, .bool m.over, .slice na m.nodes.length nc, .int .u64 m.rest, .slice ia m.items.length ic]), .pointer (some ⟨w.heap.size, 0, none⟩), .pointer (some ⟨w.heap.size + 1, 0, none⟩), .pointer (some ⟨O, 0, none⟩), undef, u5, u6, u7, u8, u9, u10, u11, u12, u13, u14, undef, undef, undef, undef, undef, undef, undef, undef, undef, undef, undef, undef, undef, undef, undef, undef, undef, undef, undef, undef, undef, undef, undef], defers := [] } : Act) ∧ P1 zs m na ia nc ic w x O na1 nc1) ?hq ?h
  case h =>
    refine Rel.wp_region_cut 11 (C1 m na ia nc ic w) (fun x y => Below x.heap.size x y) (fun i v x => (([Dm.eq (.pointer (some ⟨w.heap.size, 0, none⟩)), Dm.eq (.int .i64 m.told), Dm.eq (.pointer (some ⟨w.heap.size, 1, none⟩)), Dm.eq (.bool m.over), Dm.eq (.pointer (some ⟨w.heap.size, 2, none⟩)), Dm.eq (.slice na m.nodes.length nc), Dm.row zs, Dm.eq (.pointer (some ⟨w.heap.size, 3, none⟩)), Dm.eq (.int .u64 m.rest), Dm.built m zs, Dm.fresh (w.heap.size + 1)] : List Dm).getD i (Dm.eq undef)).den v x) (by kernel_rfl) (by kernel_rfl) (by decide) (by kernel_rfl) (fun i v x y h hB => Dm.step h hB) (hc1.step (Below.refl _ _).drew) ?hob ?hend
    case hend =>
      intro f a x hc hdef hsz hr hall
      obtain ⟨v0, e0, r0⟩ := hall 0 _ (by decide) rfl
      replace e0 := getD_tmp (e0 5 rfl)
      obtain ⟨v1, e1, r1⟩ := hall 1 _ (by decide) rfl
      replace e1 := getD_tmp (e1 6 rfl)
      obtain ⟨v2, e2, r2⟩ := hall 2 _ (by decide) rfl
      replace e2 := getD_tmp (e2 7 rfl)
      obtain ⟨v3, e3, r3⟩ := hall 3 _ (by decide) rfl
      replace e3 := getD_tmp (e3 8 rfl)
      obtain ⟨v4, e4, r4⟩ := hall 4 _ (by decide) rfl
      replace e4 := getD_tmp (e4 9 rfl)
      obtain ⟨v5, e5, r5⟩ := hall 5 _ (by decide) rfl
      replace e5 := getD_tmp (e5 10 rfl)
      obtain ⟨v6, e6, r6⟩ := hall 6 _ (by decide) rfl
      replace e6 := getD_tmp (e6 11 rfl)
      obtain ⟨v7, e7, r7⟩ := hall 7 _ (by decide) rfl
      replace e7 := getD_tmp (e7 12 rfl)
      obtain ⟨v8, e8, r8⟩ := hall 8 _ (by decide) rfl
      replace e8 := getD_tmp (e8 13 rfl)
      obtain ⟨v9, e9, r9⟩ := hall 9 _ (by decide) rfl
      replace e9 := getD_tmp (e9 14 rfl)
      obtain ⟨v10, e10, r10⟩ := hall 10 _ (by decide) rfl
      replace e10 := getD_tmp (e10 3 rfl)
      obtain ⟨nv, rfl, hnv⟩ := r9
      obtain ⟨O, rfl, hO, hOb⟩ := r10
      have q0 := getD_tmp (v := (.agg #[.int .i64 m.told, .bool m.over, .slice na m.nodes.length nc, .int .u64 m.rest, .slice ia m.items.length ic])) (hr 0 (by kernel_rfl))
      have q1 := getD_tmp (v := .pointer (some ⟨w.heap.size, 0, none⟩)) (hr 1 (by kernel_rfl))
      have q2 := getD_tmp (v := .pointer (some ⟨w.heap.size + 1, 0, none⟩)) (hr 2 (by kernel_rfl))
      have q4 := getD_tmp (v := undef) (hr 4 (by kernel_rfl))
      have q15 := getD_tmp (v := undef) (hr 15 (by kernel_rfl))
      have q16 := getD_tmp (v := undef) (hr 16 (by kernel_rfl))
      have q17 := getD_tmp (v := undef) (hr 17 (by kernel_rfl))
      have q18 := getD_tmp (v := undef) (hr 18 (by kernel_rfl))
      have q19 := getD_tmp (v := undef) (hr 19 (by kernel_rfl))
      have q20 := getD_tmp (v := undef) (hr 20 (by kernel_rfl))
      have q21 := getD_tmp (v := undef) (hr 21 (by kernel_rfl))
      have q22 := getD_tmp (v := undef) (hr 22 (by kernel_rfl))
      have q23 := getD_tmp (v := undef) (hr 23 (by kernel_rfl))
      have q24 := getD_tmp (v := undef) (hr 24 (by kernel_rfl))
      have q25 := getD_tmp (v := undef) (hr 25 (by kernel_rfl))
      have q26 := getD_tmp (v := undef) (hr 26 (by kernel_rfl))
      have q27 := getD_tmp (v := undef) (hr 27 (by kernel_rfl))
      have q28 := getD_tmp (v := undef) (hr 28 (by kernel_rfl))
      have q29 := getD_tmp (v := undef) (hr 29 (by kernel_rfl))
      have q30 := getD_tmp (v := undef) (hr 30 (by kernel_rfl))
      have q31 := getD_tmp (v := undef) (hr 31 (by kernel_rfl))
      have q32 := getD_tmp (v := undef) (hr 32 (by kernel_rfl))
      have q33 := getD_tmp (v := undef) (hr 33 (by kernel_rfl))
      have q34 := getD_tmp (v := undef) (hr 34 (by kernel_rfl))
      have q35 := getD_tmp (v := undef) (hr 35 (by kernel_rfl))
      have q36 := getD_tmp (v := undef) (hr 36 (by kernel_rfl))
      have q37 := getD_tmp (v := undef) (hr 37 (by kernel_rfl))
      rw [act_norm a 38 (by rw [hsz]; rfl) hdef]
      simp only [range38, List.map_cons, List.map_nil, e0, e1, e2, e3, e4, e5, e6, e7, e8, e9, e10, q0, q1, q2, q4, q15, q16, q17, q18, q19, q20, q21, q22, q23, q24, q25, q26, q27, q28, q29, q30, q31, q32, q33, q34, q35, q36, q37]
      clear e0 e1 e2 e3 e4 e5 e6 e7 e8 e9 e10 q0 q1 q2 q4 q15 q16 q17 q18 q19 q20 q21 q22 q23 q24 q25 q26 q27 q28 q29 q30 q31 q32 q33 q34 q35 q36 q37 hr hall hsz hdef
      obtain ⟨na1, nc1, rfl⟩ := own_shape hnv
      obtain ⟨⟨c0, c1, c2, c3, c4⟩, f0, f1, f2, f3, f4⟩ := box5f hOb
      show wpAny _ _ _ _ (f + 1) _ _ _
      refine wpAny_ready (rs := [11]) (by kernel_rfl) (by simp) ?_
      refine AllReady.cons rfl (fun K hK => ?_) AllReady.nil
      go_simp
      refine hK _ _ ?_; clear hK K
      refine wpAny_done (by kernel_rfl) ?_ _
      exact ⟨_, _, _, _, _, _, _, _, _, _, O, na1, nc1, rfl, rfl, P1.of hc hO hOb hnv⟩
    case hob =>
      intro i o hik ho a x hc hr hd K hK
      match i, hik, ho with
      | 0, _, ho =>
        obtain rfl := Option.some.inj (show some _ = some o from ho)
        have q := getD_tmp (hr 1 (by kernel_rfl))
        refine op_of rfl rfl ?_
        go_simp
        exact hK _ _ hc (Below.refl _ _) rfl
      | 1, _, ho =>
        obtain rfl := Option.some.inj (show some _ = some o from ho)
        obtain ⟨v0, e0, r0⟩ := hd 0 (by decide) _ rfl
        replace e0 := e0 5 rfl
        have q0 := getD_tmp e0
        rw [show v0 = _ from r0] at q0
        obtain ⟨c0, c1, c2, c3, c4⟩ := box5 hc.bx
        refine op_of rfl rfl ?_
        go_simp
        exact hK _ _ hc (Below.refl _ _) rfl
      | 2, _, ho =>
        obtain rfl := Option.some.inj (show some _ = some o from ho)
        have q := getD_tmp (hr 1 (by kernel_rfl))
        refine op_of rfl rfl ?_
        go_simp
        exact hK _ _ hc (Below.refl _ _) rfl
      | 3, _, ho =>
        obtain rfl := Option.some.inj (show some _ = some o from ho)
        obtain ⟨v2, e2, r2⟩ := hd 2 (by decide) _ rfl
        replace e2 := e2 7 rfl
        have q2 := getD_tmp e2
        rw [show v2 = _ from r2] at q2
        obtain ⟨c0, c1, c2, c3, c4⟩ := box5 hc.bx
        refine op_of rfl rfl ?_
        go_simp
        exact hK _ _ hc (Below.refl _ _) rfl
      | 4, _, ho =>
        obtain rfl := Option.some.inj (show some _ = some o from ho)
        have q := getD_tmp (hr 1 (by kernel_rfl))
        refine op_of rfl rfl ?_
        go_simp
        exact hK _ _ hc (Below.refl _ _) rfl
      | 5, _, ho =>
        obtain rfl := Option.some.inj (show some _ = some o from ho)
        obtain ⟨v4, e4, r4⟩ := hd 4 (by decide) _ rfl
        replace e4 := e4 9 rfl
        have q4 := getD_tmp e4
        rw [show v4 = _ from r4] at q4
        obtain ⟨c0, c1, c2, c3, c4⟩ := box5 hc.bx
        refine op_of rfl rfl ?_
        go_simp
        exact hK _ _ hc (Below.refl _ _) rfl
      | 6, _, ho =>
        obtain rfl := Option.some.inj (show some _ = some o from ho)
        obtain ⟨v5, e5, r5⟩ := hd 5 (by decide) _ rfl
        replace e5 := e5 10 rfl
        obtain rfl : v5 = _ := r5
        refine op_of rfl rfl (wp_call rfl (fun _ _ => rfl) (by simp only [List.map_toArray, List.map_cons, List.map_nil, eval_tmp e5] <;> rfl) ((hfew _ x (hc.nodes.below hc.below)).mono ?_))
        rintro e y ⟨v, rfl, ho, hB⟩
        exact ⟨_, rfl, hK _ _ (hc.step hB) hB (own0 ho)⟩
      | 7, _, ho =>
        obtain rfl := Option.some.inj (show some _ = some o from ho)
        have q := getD_tmp (hr 1 (by kernel_rfl))
        refine op_of rfl rfl ?_
        go_simp
        exact hK _ _ hc (Below.refl _ _) rfl
      | 8, _, ho =>
        obtain rfl := Option.some.inj (show some _ = some o from ho)
        obtain ⟨v7, e7, r7⟩ := hd 7 (by decide) _ rfl
        replace e7 := e7 12 rfl
        have q7 := getD_tmp e7
        rw [show v7 = _ from r7] at q7
        obtain ⟨c0, c1, c2, c3, c4⟩ := box5 hc.bx
        refine op_of rfl rfl ?_
        go_simp
        exact hK _ _ hc (Below.refl _ _) rfl
      | 9, _, ho =>
        obtain rfl := Option.some.inj (show some _ = some o from ho)
        obtain ⟨v1, e1, r1⟩ := hd 1 (by decide) _ rfl
        replace e1 := e1 6 rfl
        obtain rfl : v1 = _ := r1
        have q1 := getD_tmp e1
        obtain ⟨v3, e3, r3⟩ := hd 3 (by decide) _ rfl
        replace e3 := e3 8 rfl
        obtain rfl : v3 = _ := r3
        have q3 := getD_tmp e3
        obtain ⟨v6, e6, r6⟩ := hd 6 (by decide) _ rfl
        replace e6 := e6 11 rfl
        obtain ⟨ra, rc, rfl⟩ := own_shape r6
        have q6 := getD_tmp e6
        obtain ⟨v8, e8, r8⟩ := hd 8 (by decide) _ rfl
        replace e8 := e8 13 rfl
        obtain rfl : v8 = _ := r8
        have q8 := getD_tmp e8
        refine op_of rfl rfl ?_
        go_simp
        exact hK _ _ hc (Below.refl _ _) ⟨_, rfl, r6⟩
      | 10, _, ho =>
        obtain rfl := Option.some.inj (show some _ = some o from ho)
        refine op_of rfl rfl ?_
        go_simp
        have hB := (Below.refl x.heap.size x).alloc (Nat.le_refl _) (.cells #[.int .i64 0, .bool false, .slice none 0 0, .int .u64 0, .slice none 0 0] 26)
        exact hK _ _ (hc.step hB) hB ⟨x.heap.size, rfl, by have := (Array.getElem?_eq_some_iff.1 hc.br).1; omega, by show (x.heap.push _)[x.heap.size]? = _; simp⟩
      | i + 11, h, _ => omega
  case hq =>
    rintro _ _ x ⟨u5, u6, u7, u8, u9, u10, u11, u12, u13, u14, O, na1, nc1, rfl, rfl, hp⟩
    have hL : Hid (L1 zs m na ia nc ic w O na1 nc1 0 (.slice none 0 0) [] x) := L1.start hp
    clear hp hc1 hwb
    replace hzz := hidden hzz
    go_wp2
    go_loopw [4] (fun i wr => ∃ (k : Nat) (iv : Value) (xs : List Value), k ≤ m.items.length ∧ k ≤ 4 ∧ i = .int .i64 k ∧ Hid (L1 zs m na ia nc ic w O na1 nc1 k iv xs wr)) (fun i _ => m.items.length - (intOf i).toNat)
    case atStart => exact ⟨0, _, [], Nat.zero_le _, Nat.zero_le _, rfl, hL⟩
    case round =>
      obtain ⟨k, iv, xs, hk, hk4, rfl, hl⟩ := hrel
      obtain ⟨⟨b0, b1, b2, b3, b4⟩, -⟩ := box5f hl.out.bx
      by_cases hlt : k < m.items.length ∧ k < 4
      · obtain ⟨hk1, hk2⟩ := hlt
        have hj1 : (k : Int) < (m.items.length : Int) := by omega
        have hj2 : (k : Int) < 4 := by omega
        obtain ⟨ia', ic', heq, hrow⟩ := hih.out
        obtain ⟨rfl, -, rfl⟩ : ia = ia' ∧ True ∧ ic = ic' := by injection heq with h1 _ h3; exact ⟨h1, trivial, h3⟩
        obtain ⟨bI, oI, nvI, rfl, hit⟩ := its_atM hrow hk1
        have hbI : Hid (bI < w.heap.size) := World.block_lt_of_cell? _ _ hit.1
        have hit := hit.below (hl.out.below.mono (Nat.le_refl _))
        have hyl : Hid ((m.items.getD k It.none).l.length ≤ 9223372036854775807) := by
          have e : m.items.getD k It.none = m.items[k] := by simp [List.getD, hk1]
          show _ ≤ _
          rw [e]
          exact hzz.out _ (List.getElem_mem hk1)
        have hyE : ∃ y, Hid (m.items.getD k It.none = y) := ⟨_, (rfl : _ = _)⟩
        obtain ⟨y, hyE⟩ := hyE
        rw [hyE.out] at hit hyl
        obtain ⟨c0, c1, c2, c3, hn⟩ := hit
        have hcall : ∀ x, Below wr.heap.size wr x → Calls Tryz.prog 15 #[.agg #[.int .i64 y.c, nvI, .int .i64 y.p, .int .i64 y.r]] x fun e w' => ∃ an n cn, e = .returned (.agg #[.int .i64 y.c, .slice an n cn, .int .i64 y.p, .int .i64 y.r]) ∧ Hid (w'.ownsRow 0 3 1 (.slice an n cn) (y.few 5).l.length ((y.few 5).l.map (Value.int .i64))) ∧ Below x.heap.size x w' := fun x hx =>
          (itemO_c y nvI x (hn.below hx) hyl.out).mono fun _ _ ⟨na, he, ho, hB⟩ => by
            obtain ⟨an, cn, rfl, -⟩ := holds_of_owns ho
            exact ⟨an, _, cn, he, ho, hB⟩
        obtain ⟨an, kn, rfl, -⟩ := id hn
        generalize (y.l.map (Value.int .i64)).length = nl at *
        obtain ⟨⟨p0, p1, p2, p3, p4⟩, q0, q1, q2, q3, q4⟩ := box5f hl.out.o
        obtain ⟨i0, hi0, hz0, hz1, hz2⟩ := info_parts infoItM
        have hcnt : Hid ((m.items.take k).length + 1 ≤ 100) := by show _ ≤ _; simp [List.length_take]; omega
        clear hrow hn heq
        go_wp2_with fail
        have ne1 : bI ≠ O := by have h1 := hbI.out; have h2 := hl.out.lt; omega
        have ne2 : O ≠ bI := ne1.symm
        have ne3 : w.heap.size ≠ O := by have h2 := hl.out.lt; omega
        have ne4 : O ≠ w.heap.size := ne3.symm
        go_region_law (first
            | (refine step_wp (by rfl) (wp_call (vs := #[.agg #[.int .i64 y.c, .slice an nl kn, .int .i64 y.p, .int .i64 y.r]]) (by rfl) (fun _ _ => rfl) (by simp only [List.map_toArray, List.map_cons, List.map_nil] <;> rfl) ((hcall _ (Below.refl _ _).drew).mono ?_)); rintro e w1 ⟨an1, n1, cn1, rfl, hown1, hB1⟩; refine ⟨_, rfl, ?_⟩
               have hB2 : Below wr.heap.size wr w1 := (Below.refl _ _).drew.trans hB1
               have hL1 : Hid (L1 zs m na (some ⟨bI, oI, none⟩) nc ic w O na1 nc1 k iv xs w1) := hl.out.step hB2
               have d0 := (hB2.cell (p := ⟨bI, _, none⟩) (World.block_lt_of_cell? _ _ c0)).trans c0
               have d1 := (hB2.cell (p := ⟨bI, _, none⟩) (World.block_lt_of_cell? _ _ c1)).trans c1
               have d2 := (hB2.cell (p := ⟨bI, _, none⟩) (World.block_lt_of_cell? _ _ c2)).trans c2
               have d3 := (hB2.cell (p := ⟨bI, _, none⟩) (World.block_lt_of_cell? _ _ c3)).trans c3
               have d4 := (box5f hL1.out.o).1.2.2.2.2
               have d5 := (box5f hL1.out.bx).1.2.2.2.2
               have z0 := World.new_ne _ _ d0
               have z1 := World.new_ne _ _ d1
               have z2 := World.new_ne _ _ d2
               have z3 := World.new_ne _ _ d3
               have z4 := World.new_ne _ _ d4
               have z5 := World.new_ne _ _ d5
               have z6 : ∀ o, (w1.alloc o).cell? ⟨O, 4, none⟩ = some iv := fun o => (World.cell?_alloc_lt _ _ _ (World.block_lt_of_cell? _ _ d4)).trans d4)
            | (refine step_append_own (by rfl) _ _ _ (by rfl) w.heap.size 39 i0 _ 4 48 Tryz.underlying24 hi0 hz0 hz1 hz2 rfl (by decide) iv _ xs (by rfl) (hL1.out.items.alloc _) ⟨w1.heap.size, 0, none⟩ 1 1 [.int .i64 y.c, .slice an1 n1 cn1, .int .i64 y.p, .int .i64 y.r] (by rfl) (by rfl) (cell_four_newM w1 _ _ _ _ _) (by simp [Value.oneCell']) (by have := hcnt.out; unfold maxLen; omega) (by have := hcnt.out; omega) (by have := hL1.out.below.size; simp; omega) ?_; intro v' w2 hown2 hgrow; obtain ⟨a9, c9, rfl⟩ := own_shape hown2
               have y0 := hL1.out.afterO hgrow
               have y1 := hL1.out.afterB hgrow
               have y6 := hL1.out.afterF hgrow
               have y2 := hL1.out.afterI hgrow hbI.out d0
               have y3 := hL1.out.afterI hgrow hbI.out d1
               have y4 := hL1.out.afterI hgrow hbI.out d2
               have y5 := hL1.out.afterI hgrow hbI.out d3))
        all_goals
          have htk : (m.items.take k).length = k := by rw [List.length_take]; omega
          have hL2 := hidden (hL1.out.next hyE.out hk1 hown1.out hown2 hgrow)
          rw [htk] at hL2
          clear hL1 hown1 hown2 hgrow y0 y1 y2 y3 y4 y5 y6 d0 d1 d2 d3 d4 d5 z0 z1 z2 z3 z4 z5 z6 hl hB1 hB2 c0 c1 c2 c3 p0 p1 p2 p3 p4 q0 q1 q2 q3 q4 b0 b1 b2 b3 b4 ne1 ne2 ne3 ne4 hcall hit hih hL htk
          go_wp2
          go_roundw
          case rel => exact ⟨k + 1, _, _, by omega, by omega, by go_num, hL2⟩
          case measure => simp [intOf]; omega
      · have e : m.items.take 4 = m.items.take k := by
          rcases Nat.lt_or_ge k m.items.length with h | h
          · obtain rfl : k = 4 := by omega
            rfl
          · rw [List.take_of_length_le h, List.take_of_length_le (by omega)]
        obtain ⟨a9, c9, rfl⟩ := own_shape hl.out.items
        have hfin := hidden hl.out.done
        obtain ⟨⟨p0, p1, p2, p3, p4⟩, q0, q1, q2, q3, q4⟩ := box5f hl.out.o
        obtain ⟨⟨s0, s1, s2, s3, s4⟩, t0, t1, t2, t3, t4⟩ := box5f hl.out.br
        rw [← e] at hfin p4
        generalize hnk : (m.items.take 4).length = nk at *
        replace hnk := hidden hnk
        clear hL e
        by_cases hk1 : k < m.items.length
        · have hk2 : ¬ k < 4 := fun h => hlt ⟨hk1, h⟩
          have hj1 : (k : Int) < (m.items.length : Int) := by omega
          have hj2 : ¬ (k : Int) < 4 := by omega
          clear hlt hl
          go_wp2
          refine bodyPost_ret (results_cell_row rfl _ _ (w.heap.size + 1) _ _ _ _ rfl hfin.out.res Tryz.underlying26 rfl (by kernel_rfl)) rfl ⟨_, _, rfl, hfin.out.own, ⟨xs, ?_, hfin.out.its⟩, hfin.out.below⟩
          have h9 := own0 hfin.out.items
          show World.ownsRow _ _ _ _ _ ((m.items.take 4).map fun y => y.few 5).length _
          rw [List.length_map]
          exact h9
        · have hj1 : ¬ (k : Int) < (m.items.length : Int) := by omega
          clear hlt hl
          go_wp2
          refine bodyPost_ret (results_cell_row rfl _ _ (w.heap.size + 1) _ _ _ _ rfl hfin.out.res Tryz.underlying26 rfl (by kernel_rfl)) rfl ⟨_, _, rfl, hfin.out.own, ⟨xs, ?_, hfin.out.its⟩, hfin.out.below⟩
          have h9 := own0 hfin.out.items
          show World.ownsRow _ _ _ _ _ ((m.items.take 4).map fun y => y.few 5).length _
          rw [List.length_map]
          exact h9
end Go.Proofs.YtnecfgmbfkocnaeGreat
