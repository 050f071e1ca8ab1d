/-
  LINKS IN MEMORY OF THEIR OWN, by contract: which ones.
-/
import Derived.Test.YtikajhpgoehboaaRec
import Derived.WalkSmall
import Derived.Laws.Rows
import Derived.Lib.SmallJoins
import Derived.Test.YtikajhpgoehboaaRows
import Derived.Test.YtikajhpgoehboaaCsRow
import Derived.Test.YtikajhpgoehboaaCsRStep
import Derived.Test.YtikajhpgoehboaaGRel
import Derived.Maps.AppendAt
namespace Go.Proofs.Ytikajhpgoehboaa
open Go.ChangeShapes Go.WideShapes Go.ChangeAt Go.RowKit

structure Lk where
  a : Int
  b : Int
  c : Int
  n : Int
def Lk.none : Lk := ⟨0, 0, 0, 0⟩
def linkR : Rec Lk := ⟨fun p => [.int .i64 p.a, .int .i64 p.b, .int .i64 p.c, .int .u64 p.n], 4, by decide, fun _ => rfl, fun p u hu => by simp at hu; rcases hu with rfl | rfl | rfl | rfl <;> rfl, Lk.none⟩
def Lk.wf (p : Lk) : Prop := (Lit.int .i64 p.a).wf = true ∧ (Lit.int .i64 p.b).wf = true ∧ (Lit.int .i64 p.c).wf = true ∧ (Lit.int .u64 p.n).wf = true
theorem open_links {H : Type} {enc : TypeId × Value → H} {P : Program} {w : World} {sp : Nat → Bool} {held : Bool} {t e : TypeId} {f0 f1 f2 f3 : Field} {v : Value} {d : DataW H} {qs : List MemPlace} {r : Reach} {b0 : Nat}
    (ht : P.underlying t = some (.slice e)) (he : P.underlying e = some (.struct #[f0, f1, f2, f3])) (h0 : P.underlying f0.type = some (.int .i64)) (h1 : P.underlying f1.type = some (.int .i64)) (h2 : P.underlying f2.type = some (.int .i64)) (h3 : P.underlying f3.type = some (.int .u64)) (hc : P.cellsOf e = 4)
    (o0 : f0.offset = 0) (o1 : f1.offset = 1) (o2 : f2.offset = 2) (o3 : f3.offset = 3) (c0 : P.cellsOf f0.type = 1) (c1 : P.cellsOf f1.type = 1) (c2 : P.cellsOf f2.type = 1) (c3 : P.cellsOf f3.type = 1)
    (hval : Value.okWide P w r b0 t v) (h : DataW.Trod enc P w 0 sp held t v d qs) : ∃ ps : List Lk, ps.length ≤ maxLen ∧ HoldsR linkR w v ps ∧ ∀ p ∈ ps, p.wf :=
  open_recs (R := linkR) ht hc (fun fuel cs x hl hx => by
    match cs, hl with
    | [u0, u1, u2, u3], _ =>
      obtain ⟨_, _, _, _, _, _, _, g0, g1, g2, g3⟩ := Go.Joins.trod_struct4 he hx
      rw [o0, c0] at g0
      rw [o1, c1] at g1
      rw [o2, c2] at g2
      rw [o3, c3] at g3
      obtain ⟨a, e0, _, w0⟩ := DataW.trod_int h0 g0
      obtain ⟨b, e1, _, w1⟩ := DataW.trod_int h1 g1
      obtain ⟨c, e2, _, w2⟩ := DataW.trod_int h2 g2
      obtain ⟨n, e3, _, w3⟩ := DataW.trod_int h3 g3
      have e0 : u0 = .int .i64 a := by simpa using e0
      have e1 : u1 = .int .i64 b := by simpa using e1
      have e2 : u2 = .int .i64 c := by simpa using e2
      have e3 : u3 = .int .u64 n := by simpa using e3
      exact ⟨⟨a, b, c, n⟩, by rw [e0, e1, e2, e3]; rfl, w0, w1, w2, w3⟩) hval h
theorem infoL : (Try.prog.info? 73).map (fun i => (i.zero, i.size, i.bytes)) = some (some (.agg #[.int .i64 0, .int .i64 0, .int .i64 0, .int .u64 0]), 4, 32) := by kernel_rfl
theorem link_at {w : World} {a : Option Addr} {ps : List Lk} (h : RowAt w a (linkR.flat ps)) {k : Nat} (hk : k < ps.length) :
    ∃ b off, a = some ⟨b, off, none⟩ ∧ b < w.heap.size ∧ w.cell? ⟨b, off + k * 4, none⟩ = some (.int .i64 (ps.getD k Lk.none).a) ∧ w.cell? ⟨b, off + k * 4 + 1, none⟩ = some (.int .i64 (ps.getD k Lk.none).b) ∧
      w.cell? ⟨b, off + k * 4 + 2, none⟩ = some (.int .i64 (ps.getD k Lk.none).c) ∧ w.cell? ⟨b, off + k * 4 + 3, none⟩ = some (.int .u64 (ps.getD k Lk.none).n) := by
  obtain ⟨b, off, h1, h2, h3⟩ := rec_at h hk
  exact ⟨b, off, h1, h2, h3 0 _ rfl, h3 1 _ rfl, h3 2 _ rfl, h3 3 _ rfl⟩
/-- A link, its cost cut. -/
def Lk.low (p : Lk) : Lk := if 1000000000 < p.c then ⟨p.a, p.b, 1000000000, p.n⟩ else p
theorem cells_new2L (w : World) (o : Obj) (xs : List Value) (t : TypeId) : ∀ j x, xs[j]? = some x → ((w.alloc o).alloc (.cells xs.toArray t)).cell? ((⟨w.heap.size + 1, 0, none⟩ : Addr).add j) = some x := fun j x hj => by
  have h := cells_new (w.alloc o) xs t j x hj
  rwa [show (w.alloc o).heap.size = w.heap.size + 1 by show (w.heap.push o).size = _; simp] at h
theorem box4fL {x : World} {b : Nat} {c0 c1 c2 c3 : Value} {t : TypeId} (h : x.heap[b]? = some (.cells #[c0, c1, c2, c3] t)) :
    (x.cell? ⟨b, 0, none⟩ = some c0 ∧ x.cell? ⟨b, 1, none⟩ = some c1 ∧ x.cell? ⟨b, 2, none⟩ = some c2 ∧ x.cell? ⟨b, 3, none⟩ = some c3) ∧ x.frozen? ⟨b, 0, none⟩ = false ∧ x.frozen? ⟨b, 1, none⟩ = false ∧ x.frozen? ⟨b, 2, none⟩ = false ∧ x.frozen? ⟨b, 3, none⟩ = false := by
  simp [World.cell?, World.frozen?, h]
end Go.Proofs.Ytikajhpgoehboaa
/-
  THE FIRST OF EACH RUN: of a list in order (by t, and then by v) the first one of each t is the least one of each t. No function is named here.
-/
namespace Go.Proofs.Ytikajhpgoehboaa

section
variable {α : Type} (t v : α → Nat)
/-- The first of each run; p is the t of the one before. -/
def firsts : Option Nat → List α → List α
  | _, [] => []
  | p, x :: r => if p = some (t x) then firsts p r else x :: firsts (some (t x)) r
/-- The least v of those of t = b, as a walk finds it. -/
def updB (b : Nat) (m : Option Nat) (x : α) : Option Nat := if t x = b then (match m with | none => some (v x) | some k => if v x < k then some (v x) else some k) else m
def leastB (b : Nat) (l : List α) : Option Nat := l.foldl (updB t v b) none
def Sorted (l : List α) : Prop := l.Pairwise fun x y => t x < t y ∨ (t x = t y ∧ v x ≤ v y)
variable {t v}
theorem fold_other {b : Nat} : ∀ {l : List α} {m : Option Nat}, (∀ x ∈ l, t x ≠ b) → l.foldl (updB t v b) m = m
  | [], _, _ => rfl
  | x :: r, m, h => by
    rw [List.foldl_cons, show updB t v b m x = m from if_neg (h x List.mem_cons_self)]
    exact fold_other fun y hy => h y (List.mem_cons_of_mem _ hy)
theorem fold_least {b k : Nat} : ∀ {l : List α}, (∀ x ∈ l, t x = b → k ≤ v x) → l.foldl (updB t v b) (some k) = some k
  | [], _ => rfl
  | x :: r, h => by
    have e : updB t v b (some k) x = some k := by
      unfold updB
      by_cases hb : t x = b
      · have h1 := h x List.mem_cons_self hb
        rw [if_pos hb]
        simp only
        rw [if_neg (by omega)]
      · exact if_neg hb
    rw [List.foldl_cons, e]
    exact fold_least fun y hy => h y (List.mem_cons_of_mem _ hy)
theorem leastB_skip {b : Nat} {x : α} {r : List α} (h : t x ≠ b) : leastB t v b (x :: r) = leastB t v b r := by
  unfold leastB
  rw [List.foldl_cons, show updB t v b none x = none from if_neg h]
theorem leastB_head {x : α} {r : List α} (h : Sorted t v (x :: r)) : leastB t v (t x) (x :: r) = some (v x) := by
  unfold leastB
  rw [List.foldl_cons, show updB t v (t x) none x = some (v x) from if_pos rfl]
  refine fold_least fun y hy hb => ?_
  rcases (List.pairwise_cons.1 h).1 y hy with h1 | h1 <;> omega
theorem leastB_none {b : Nat} {l : List α} (h : ∀ x ∈ l, t x ≠ b) : leastB t v b l = none := fold_other h
theorem filterMap_same {β γ : Type} {f g : β → Option γ} : ∀ {l : List β}, (∀ x ∈ l, f x = g x) → l.filterMap f = l.filterMap g
  | [], _ => rfl
  | x :: r, h => by rw [List.filterMap_cons, List.filterMap_cons, h x List.mem_cons_self, filterMap_same fun y hy => h y (List.mem_cons_of_mem _ hy)]
/-- Where those begin that may come. -/
def lowOf : Option Nat → Nat
  | none => 0
  | some q => q + 1
theorem firsts_is (N : Nat) : ∀ (l : List α) (p : Option Nat), Sorted t v l → (∀ x ∈ l, t x < N) → (∀ x ∈ l, lowOf p ≤ t x + 1) →
    (firsts t p l).map (fun x => (t x, v x)) = (List.range' (lowOf p) (N - lowOf p)).filterMap fun b => (leastB t v b l).map fun k => (b, k)
  | [], p, _, _, _ => by
    show [] = (List.range' (lowOf p) (N - lowOf p)).filterMap fun _ => none
    exact (List.filterMap_eq_nil_iff.2 fun _ _ => rfl).symm
  | x :: r, p, hs, hN, hlo => by
    have hs' := (List.pairwise_cons.1 hs).2
    have hN' : ∀ y ∈ r, t y < N := fun y hy => hN y (List.mem_cons_of_mem _ hy)
    have hx := hN x List.mem_cons_self
    have hge : ∀ y ∈ r, t x ≤ t y := fun y hy => by rcases (List.pairwise_cons.1 hs).1 y hy with h1 | h1 <;> omega
    by_cases he : p = some (t x)
    · have e1 : firsts t p (x :: r) = firsts t p r := by rw [firsts, if_pos he]
      rw [e1, firsts_is N r p hs' hN' (fun y hy => hlo y (List.mem_cons_of_mem _ hy))]
      refine filterMap_same fun b hb => ?_
      rw [List.mem_range'_1] at hb
      subst he
      simp only [lowOf] at hb
      rw [leastB_skip (by omega)]
    · have e1 : firsts t p (x :: r) = x :: firsts t (some (t x)) r := by rw [firsts, if_neg he]
      have hl : lowOf p ≤ t x := by
        have h1 := hlo x List.mem_cons_self
        cases p with
        | none => simp [lowOf]
        | some q =>
          simp only [lowOf] at h1 ⊢
          have : q ≠ t x := fun e => he (by rw [e])
          omega
      rw [e1, List.map_cons, firsts_is N r (some (t x)) hs' hN' (fun y hy => by have := hge y hy; simp only [lowOf]; omega)]
      have e2 : List.range' (lowOf p) (N - lowOf p) = List.range' (lowOf p) (t x - lowOf p) ++ (t x :: List.range' (t x + 1) (N - (t x + 1))) := by
        have h1 : t x :: List.range' (t x + 1) (N - (t x + 1)) = List.range' (t x) (N - t x) := by
          rw [show N - t x = (N - (t x + 1)) + 1 by omega, List.range'_succ]
        rw [h1, show t x = lowOf p + 1 * (t x - lowOf p) by omega]
        rw [show lowOf p + 1 * (t x - lowOf p) - lowOf p = t x - lowOf p by omega, List.range'_append]
        congr 1
        omega
      rw [e2, List.filterMap_append, List.filterMap_cons]
      have e3 : (List.range' (lowOf p) (t x - lowOf p)).filterMap (fun b => (leastB t v b (x :: r)).map fun k => (b, k)) = [] := by
        rw [List.filterMap_eq_nil_iff]
        intro b hb
        rw [List.mem_range'_1] at hb
        rw [leastB_none]
        · rfl
        · intro y hy
          rcases List.mem_cons.1 hy with rfl | hy
          · omega
          · have := hge y hy; omega
      rw [e3, leastB_head hs, List.nil_append]
      simp only [Option.map_some]
      congr 1
      refine filterMap_same fun b hb => ?_
      rw [List.mem_range'_1] at hb
      simp only [lowOf] at hb
      rw [leastB_skip (by omega)]
/-- The first of each run are the least of each b below N, in order. -/
theorem firsts_least {N : Nat} {l : List α} (hs : Sorted t v l) (hN : ∀ x ∈ l, t x < N) : (firsts t none l).map (fun x => (t x, v x)) = (List.range N).filterMap fun b => (leastB t v b l).map fun k => (b, k) := by
  rw [firsts_is N l none hs hN (fun _ _ => Nat.zero_le _), List.range_eq_range']
  rfl
end
/-- The links of all nodes, each node's by its other end. -/
def linksOf (N : Nat) (G : Nat → List (Nat × Nat)) : List (Nat × Nat × Nat) := (List.range N).flatMap fun a => (G a).map fun p => (a, p.1, p.2)
theorem linksOf_congr {N : Nat} {G H : Nat → List (Nat × Nat)} (h : ∀ a, a < N → G a = H a) : linksOf N G = linksOf N H := by
  unfold linksOf
  rw [List.flatMap_def, List.flatMap_def]
  congr 1
  exact List.map_congr_left fun a ha => by rw [h a (List.mem_range.1 ha)]
theorem linksOf_succ (N : Nat) (G : Nat → List (Nat × Nat)) : linksOf (N + 1) G = linksOf N G ++ (G N).map fun p => (N, p.1, p.2) := by
  unfold linksOf
  rw [List.range_succ, List.flatMap_append]
  simp
theorem linksOf_rise {N : Nat} {G : Nat → List (Nat × Nat)} (hG : ∀ a, a < N → (G a).Pairwise fun p q => p.1 < q.1) : (linksOf N G).Pairwise fun x y => x.1 < y.1 ∨ (x.1 = y.1 ∧ x.2.1 < y.2.1) := by
  unfold linksOf
  rw [List.pairwise_flatMap]
  refine ⟨fun a ha => ?_, ?_⟩
  · rw [List.pairwise_map]
    exact (hG a (List.mem_range.1 ha)).imp fun h => Or.inr ⟨rfl, h⟩
  · refine List.pairwise_lt_range.imp fun {a b} h x hx y hy => ?_
    obtain ⟨p, _, rfl⟩ := List.mem_map.1 hx
    obtain ⟨q, _, rfl⟩ := List.mem_map.1 hy
    exact Or.inl h
theorem least_rise {N : Nat} {f : Nat → Option Nat} : ((List.range N).filterMap fun b => (f b).map fun k => (b, k)).Pairwise fun p q => p.1 < q.1 := by
  rw [List.pairwise_filterMap]
  refine List.pairwise_lt_range.imp fun {a b} h x hx y hy => ?_
  cases ha : f a with
  | none => rw [ha] at hx; cases hx
  | some k =>
    cases hb : f b with
    | none => rw [hb] at hy; cases hy
    | some m =>
      rw [ha] at hx; rw [hb] at hy
      cases hx; cases hy
      exact h
theorem linksOf_low {N M : Nat} {G : Nat → List (Nat × Nat)} (hG : ∀ a, a < N → ∀ p ∈ G a, p.1 < M) : ∀ x ∈ linksOf N G, x.1 < N ∧ x.2.1 < M := by
  intro x hx
  obtain ⟨a, ha, hx⟩ := List.mem_flatMap.1 hx
  obtain ⟨p, hp, rfl⟩ := List.mem_map.1 hx
  exact ⟨List.mem_range.1 ha, hG a (List.mem_range.1 ha) p hp⟩
/-- As many as all rows have together, at the most. -/
theorem firsts_len {α : Type} {t : α → Nat} : ∀ (l : List α) (p : Option Nat), (firsts t p l).length ≤ l.length
  | [], _ => Nat.le_refl _
  | x :: r, p => by
    rw [firsts]
    split
    · exact Nat.le_succ_of_le (firsts_len r p)
    · exact Nat.succ_le_succ (firsts_len r _)
/-- The t of the last one. -/
def lastT {α : Type} (t : α → Nat) : Option Nat → List α → Option Nat
  | p, [] => p
  | _, x :: r => lastT t (some (t x)) r
theorem lastT_snoc {α : Type} {t : α → Nat} (x : α) : ∀ (l : List α) (p : Option Nat), lastT t p (l ++ [x]) = some (t x)
  | [], _ => rfl
  | y :: r, _ => lastT_snoc x r (some (t y))
theorem firsts_snoc {α : Type} {t : α → Nat} (x : α) : ∀ (l : List α) (p : Option Nat), firsts t p (l ++ [x]) = firsts t p l ++ (if lastT t p l = some (t x) then [] else [x])
  | [], p => by
    rw [List.nil_append, firsts, firsts, firsts, List.nil_append]
    rfl
  | y :: r, p => by
    rw [List.cons_append, firsts, firsts, lastT]
    by_cases h : p = some (t y)
    · rw [if_pos h, if_pos h, firsts_snoc x r p, h]
    · rw [if_neg h, if_neg h, firsts_snoc x r (some (t y)), List.cons_append]
def lastI : Option Nat → Int
  | none => -1
  | some q => (q : Nat)
theorem lastI_eq (p : Option Nat) (k : Nat) : ((k : Nat) : Int) = lastI p ↔ p = some k := by
  cases p with
  | none => simp only [lastI]; exact ⟨fun h => by omega, fun h => by cases h⟩
  | some q => simp only [lastI, Option.some.injEq]; omega
end Go.Proofs.Ytikajhpgoehboaa
/-
  THE LINKS OF A STEP (pairs.Edges), by contract: of each node the first arc to each other node; what csr tells of the nodes and of the step's arcs is premised.
-/
namespace Go.Proofs.Ytikajhpgoehboaa
open Go.ChangeShapes Go.WideShapes Go.ChangeAt Go.RowKit

def mkL (x : Nat × Nat × Nat) : Lk := ⟨(x.1 : Nat), (x.2.1 : Nat), (x.2.2 : Nat), 1⟩
/-- The links of the rows R. -/
def lks (N : Nat) (R : Nat → List Ar) : List Lk := (linksOf N fun a => (firsts Ar.to none (R a)).map fun x => (x.to, x.wt)).map mkL
/-- The links of one row's arcs. -/
def lkRow (a : Nat) (l : List Ar) : List Lk := (firsts Ar.to none l).map fun x => ⟨(a : Nat), (x.to : Nat), (x.wt : Nat), 1⟩
theorem lks_succ (N : Nat) (R : Nat → List Ar) : lks (N + 1) R = lks N R ++ lkRow N (R N) := by
  unfold lks lkRow
  rw [linksOf_succ, List.map_append, List.map_map, List.map_map]
  rfl
theorem lkRow_snoc (a : Nat) (l : List Ar) (x : Ar) : lkRow a (l ++ [x]) = lkRow a l ++ (if lastT Ar.to none l = some x.to then [] else [⟨(a : Nat), (x.to : Nat), (x.wt : Nat), 1⟩]) := by
  unfold lkRow
  rw [firsts_snoc, List.map_append]
  split <;> rfl
theorem lkRow_len (a : Nat) (l : List Ar) : (lkRow a l).length ≤ l.length := by
  unfold lkRow
  rw [List.length_map]
  exact firsts_len l none
theorem lks_len (N : Nat) (R : Nat → List Ar) (hR : ∀ n, (R n).length ≤ 1000) : (lks N R).length ≤ N * 1000 := by
  induction N with
  | zero => exact Nat.le_refl _
  | succ N ih =>
    rw [lks_succ, List.length_append]
    have h1 := lkRow_len N (R N)
    have h2 := hR N
    omega
end Go.Proofs.Ytikajhpgoehboaa
/-
  THE LINKS OF A STEP (pairs.Edges), by contract: of each node the first arc to each other node; what csr tells of the nodes and of the step's arcs is premised.
-/
namespace Go.Proofs.Ytikajhpgoehboaa
open Go.ChangeShapes Go.WideShapes Go.ChangeAt Go.RowKit Go.Maps

theorem heap_alloc_old2 (w : World) (o o2 : Obj) {b : Nat} (hb : b < w.heap.size) : ((w.alloc o).alloc o2).heap[b]? = w.heap[b]? :=
  (heap_alloc_old (w.alloc o) o2 (by simp; omega)).trans (heap_alloc_old w o hb)
theorem box4r {x : World} {b : Nat} {c0 c1 c2 c3 : Value} {t : TypeId} (h : x.heap[b]? = some (.cells #[c0, c1, c2, c3] t)) : (x.cell? ⟨b, 0, none⟩ = some c0 ∧ x.cell? ⟨b, 1, none⟩ = some c1 ∧ x.cell? ⟨b, 2, none⟩ = some c2 ∧ x.cell? ⟨b, 3, none⟩ = some c3) ∧ x.frozen? ⟨b, 0, none⟩ = false ∧ x.frozen? ⟨b, 1, none⟩ = false ∧ x.frozen? ⟨b, 2, none⟩ = false ∧ x.frozen? ⟨b, 3, none⟩ = false := by
  simp [World.cell?, World.frozen?, h]
/-- An own row's block, if it has one. -/
theorem own_block {w : World} {B e s n c : Nat} {a : Option Addr} {xs : List Value} (h : w.ownsRow B e s (.slice a n c) n xs) : ∃ gb : Nat, ∀ t, t < n → a = some ⟨gb, 0, none⟩ ∧ B ≤ gb ∧ gb < w.heap.size := by
  rcases h.2 with ⟨h1, h2⟩ | ⟨g, cap, cur, h1, h2, h3, h4⟩
  · refine ⟨0, fun t ht => ?_⟩
    simp only [Value.slice.injEq] at h1
    omega
  · simp only [Value.slice.injEq] at h1
    exact ⟨g, fun t _ => ⟨h1.1, h2, (Array.getElem?_eq_some_iff.1 h3).1⟩⟩
theorem box2r {x : World} {b : Nat} {c0 c1 : Value} {t : TypeId} (h : x.heap[b]? = some (.cells #[c0, c1] t)) : (x.cell? ⟨b, 0, none⟩ = some c0 ∧ x.cell? ⟨b, 1, none⟩ = some c1) ∧ x.frozen? ⟨b, 0, none⟩ = false ∧ x.frozen? ⟨b, 1, none⟩ = false := by
  simp [World.cell?, World.frozen?, h]
set_option maxHeartbeats 3200000 in
set_option maxRecDepth 100000 in
theorem edges_p (N : Nat) (R : Nat → List Ar) (pc : Value) (s : ByteArray) (back : Bool) (w : World) (hN : N ≤ 1000) (hR : ∀ n, (R n).length ≤ 1000)
    (hno : ∀ z, Below w.heap.size w z → Calls Try.prog 18 #[pc] z fun e w' => e = .returned (.int .i64 (N : Int)) ∧ w' = z)
    (hst : ∀ (n : Nat) z, Below w.heap.size w z → Calls Try.prog 19 #[pc, .int .i64 (n : Int), .agg #[.string s, .bool back]] z fun e w' => ∃ (a : Option Addr) (c : Nat), e = .returned (.slice a (R n).length c) ∧ w'.ownsRow z.heap.size 67 4 (.slice a (R n).length c) (R n).length (arR.flat (R n)) ∧ Below z.heap.size z w') :
    Calls Try.prog 8 #[pc, .agg #[.string s, .bool back]] w fun e w' => ∃ a n c, e = .returned (.slice a n c) ∧ SlR linkR w' (.slice a n c) (lks N R) ∧ Below w.heap.size w w' := by
  obtain ⟨i0, hi, hz0, hz1, hz2⟩ := info_parts infoL
  have hX := hidden (heap_alloc_new w (.cells #[.string s, .bool back] 27))
  have hB0 : Hid (Below w.heap.size w (w.alloc (.cells #[.string s, .bool back] 27))) := (Below.refl _ _).alloc (Nat.le_refl _) _
  have hnod := hno _ hB0.out
  replace hst := hidden hst
  clear hno
  go_enter Try.func8, Try.ntmps8
  go_wp2_with fail
  refine hnod.mono ?_
  rintro e w1 ⟨rfl, rfl⟩
  clear hnod
  go_wp2_with fail
  have hBx : Hid (Below (w.alloc (.cells #[.string s, .bool back] 27)).heap.size (w.alloc (.cells #[.string s, .bool back] 27)) (w.alloc (.cells #[.string s, .bool back] 27))) := Below.refl _ _
  generalize w.alloc (.cells #[.string s, .bool back] 27) = x at *
  go_loopw [5, 12] (fun u i wr => ∃ k : Nat, k ≤ N ∧ i = .int .i64 k ∧ Hid (wr.ownsRow x.heap.size 73 4 u (lks k R).length (linkR.flat (lks k R))) ∧ u.oneCell' = true ∧ Hid (Below x.heap.size x wr))
    (fun _ i _ => N - (intOf i).toNat)
  case atStart => exact ⟨0, Nat.zero_le _, rfl, World.ownsRow_nil .., rfl, hBx⟩
  case round =>
    obtain ⟨k, hk, rfl, hown, hone, hnx⟩ := hrel
    by_cases hlt : k < N
    · have hs1 := hst.out k wr (hB0.out.trans (hnx.out.mono hB0.out.size))
      obtain ⟨⟨b0, b1⟩, -⟩ := box2r (box_below hX.out hnx.out)
      go_wp2_with fail
      refine hs1.mono ?_
      rintro e y ⟨ga, gc, rfl, harc, hBy⟩
      clear hs1 b0 b1
      have hown2 := hidden (owns_keep hown.out hBy)
      have hn2 : Hid (Below x.heap.size x y) := hnx.out.trans (hBy.mono hnx.out.size)
      go_wp2_with fail
      obtain ⟨gb, hgb⟩ := own_block harc
      have hra := holdsR_of_owns (R := arR) harc
      obtain ⟨a', c', he, hra⟩ := hra
      simp only [Value.slice.injEq] at he
      obtain ⟨rfl, -, -⟩ := he
      have hub : ∀ j, u5.ownBlock = some j → j < wr.heap.size := fun j hj => (hown.out.lt j hj).2
      replace harc := hidden harc
      replace hgb := hidden hgb
      replace hra := hidden hra
      replace hub := hidden hub
      replace hBy := hidden hBy
      have hRk := hR k
      generalize hRR : R k = A at *
      go_loopw [5, 7, 20] (fun u l i z => ∃ t : Nat, t ≤ A.length ∧ i = .int .i64 t ∧ l = .int .i64 (lastI (lastT Ar.to none (A.take t))) ∧ Hid (z.ownsRow x.heap.size 73 4 u (lks k R ++ lkRow k (A.take t)).length (linkR.flat (lks k R ++ lkRow k (A.take t)))) ∧ u.oneCell' = true ∧ Hid (Below x.heap.size x z) ∧ Hid (y.heap.size ≤ z.heap.size) ∧ Hid (t < A.length → u.ownBlock ≠ some gb ∧ z.heap[gb]? = y.heap[gb]?))
        (fun _ _ i _ => A.length - (intOf i).toNat)
      case atStart => exact ⟨0, Nat.zero_le _, rfl, rfl, by rw [List.take_zero]; simpa [lkRow, firsts] using hown2, hone, hn2, Nat.le_refl _, fun ht => ⟨fun e => by have h1 := hub.out gb e; have h2 := (hgb.out 0 ht).2.1; omega, rfl⟩⟩
      case round =>
        obtain ⟨t, ht, rfl, rfl, hownz, honez, hnz, hyz, hkeep⟩ := hrel
        by_cases hlt2 : t < A.length
        · obtain ⟨b, off, hga, hbb, c0, c1, c2, c3⟩ := arc_at hra.out hlt2
          obtain ⟨rfl, g2, g3⟩ := hgb.out t hlt2
          obtain ⟨k1, k2⟩ := hkeep.out hlt2
          simp only [Option.some.injEq, Addr.mk.injEq, and_true] at hga
          obtain ⟨rfl, rfl⟩ := hga
          have ez : ∀ j, wr.cell? ⟨gb, j, none⟩ = y.cell? ⟨gb, j, none⟩ := fun j => by simp only [World.cell?]; rw [k2]
          rw [← ez] at c0 c1 c2 c3
          clear ez
          replace k2 := hidden k2
          simp only [Nat.zero_add] at c0 c1 c2 c3
          have hgz : gb < wr.heap.size := Nat.lt_of_lt_of_le g3 hyz.out
          have htk := hidden (take_snocR A Ar.none t hlt2)
          generalize A.getD t Ar.none = p at *
          obtain ⟨pl, pt, pw, pe⟩ := p
          simp only at c0 c1 c2 c3
          have hX9 := hidden (heap_alloc_new wr (.cells #[.int .i64 (pl : Int), .int .i64 (pt : Int), .int .i64 (pw : Int), .int .i64 (pe : Int)] 67))
          have hX8 := hidden (heap_alloc_new wr (.cells #[.int .i64 0, .int .i64 0, .int .i64 0, .int .i64 0] 67))
          obtain ⟨⟨b0, b1, b2, b3⟩, f0, f1, f2, f3⟩ := box4r hX9.out
          have hsn := hidden (lkRow_snoc k (A.take t) ⟨pl, pt, pw, pe⟩)
          have hla := hidden (lastT_snoc (t := Ar.to) ⟨pl, pt, pw, pe⟩ (A.take t) none)
          rw [← htk.out] at hsn hla
          by_cases hl : lastT Ar.to none (A.take t) = some pt
          · have hne : (((pt : Nat) : Int) != lastI (lastT Ar.to none (A.take t))) = false := by rw [bne_eq_false_iff_eq]; exact (lastI_eq _ _).2 hl
            have hz3 : Hid (Below x.heap.size x (wr.alloc (.cells #[.int .i64 (pl : Int), .int .i64 (pt : Int), .int .i64 (pw : Int), .int .i64 (pe : Int)] 67))) := hnz.out.alloc hnz.out.size _
            have ho3 := hidden (hownz.out.alloc (.cells #[.int .i64 (pl : Int), .int .i64 (pt : Int), .int .i64 (pw : Int), .int .i64 (pe : Int)] 67))
            have hk3 := heap_alloc_old wr (.cells #[.int .i64 (pl : Int), .int .i64 (pt : Int), .int .i64 (pw : Int), .int .i64 (pe : Int)] 67) hgz
            replace hl := hidden hl
            replace hk3 := hidden hk3
            go_wp2
            go_roundw
            case rel => exact ⟨t + 1, by omega, by go_num, by rw [hla.out, hl.out], by rw [hsn.out, if_pos hl.out, List.append_nil]; exact ho3, honez, hz3, by have := hyz.out; show _ ≤ (wr.heap.push _).size; simp; omega, fun _ => ⟨k1, hk3.out.trans k2.out⟩⟩
            case measure => simp [intOf]; omega
          · have hne : (((pt : Nat) : Int) != lastI (lastT Ar.to none (A.take t))) = true := by rw [bne_iff_ne]; exact fun e => hl ((lastI_eq _ _).1 e)
            have hX2 := hidden (heap_alloc_old (wr.alloc (.cells #[.int .i64 (pl : Int), .int .i64 (pt : Int), .int .i64 (pw : Int), .int .i64 (pe : Int)] 67)) (.cells #[.int .i64 (k : Int), .int .i64 (pt : Int), .int .i64 (pw : Int), .int .u64 1] 73) (by simp) |>.trans hX9.out)
            have hlen : Hid ((lks k R ++ lkRow k (A.take t)).length ≤ 1001000) := by
              show _ ≤ _
              have h1 := lks_len k R hR
              have h2 := lkRow_len k (A.take t)
              rw [List.length_take] at h2
              rw [List.length_append]
              have := hRk
              omega
            have hb2 : Hid (x.heap.size ≤ wr.heap.size) := hnz.out.size
            obtain ⟨⟨e0, e1, e2, e3⟩, -⟩ := box4r hX2.out
            go_wp2_with (at_builtin; go_loud (refine wpList_append_own_at _ rfl _ _ 35 rfl x.heap.size 73 i0 (.agg #[.int .i64 0, .int .i64 0, .int .i64 0, .int .u64 0]) 4 32 Try.underlying35 hi hz0 hz1 hz2 rfl (by decide) _ _ _ rfl ((hownz.out.alloc _).alloc _) ⟨wr.heap.size + 1, 0, none⟩ 1 1 [.int .i64 (k : Int), .int .i64 (pt : Int), .int .i64 (pw : Int), .int .u64 1] rfl rfl (cells_new2L wr _ [_, _, _, _] _) (by intro u hu; simp at hu; rcases hu with rfl | rfl | rfl | rfl <;> rfl) (by have := hlen.out; unfold maxLen; omega) (by have := hlen.out; omega) (by have := hb2.out; simp at *; omega) ?_); intro v' w6 hown6 hgrow6 _ hat6; have hb6 := box_grown hX2.out ((hownz.out.alloc _).alloc _) (by decide) hgrow6; obtain ⟨⟨z0, z1, z2, z3⟩, -⟩ := box4r hb6)
            have hB6 : Hid (Below x.heap.size x w6) := ((hnz.out.alloc hb2.out _).alloc (by have := hb2.out; show _ ≤ (wr.heap.push _).size; simp; omega) _).grown hgrow6 (by have := hb2.out; simp; omega) (fun j hj => by have := (hownz.out.lt j hj).1; omega)
            have ho6 : Hid (w6.ownsRow x.heap.size 73 4 v' (lks k R ++ lkRow k (A.take (t + 1))).length (linkR.flat (lks k R ++ lkRow k (A.take (t + 1))))) := by
              show World.ownsRow _ _ _ _ _ _ _
              rw [hsn.out, if_neg hl, ← List.append_assoc, List.length_append, Rec.flat_app]
              exact hown6
            have hone6 : v'.oneCell' = true := by
              rcases hown6.2 with ⟨rfl, _⟩ | ⟨_, _, _, rfl, _⟩ <;> rfl
            have hsz6 : Hid (y.heap.size ≤ w6.heap.size) := by
              have h1 := hgrow6.size
              have h2 := hyz.out
              simp at h1
              show _ ≤ _
              omega
            have hk6 : Hid (v'.ownBlock ≠ some gb ∧ w6.heap[gb]? = y.heap[gb]?) := by
              refine ⟨fun e => ?_, ?_⟩
              · rcases hat6 with h | h
                · exact k1 (h.symm.trans e)
                · rw [h] at e
                  simp at e
                  omega
              · have h1 := hgrow6.block gb (by simp; omega) (fun e => k1 (by exact e.symm))
                exact h1.trans ((heap_alloc_old2 wr _ _ hgz).trans k2.out)
            clear hgrow6 hat6 hown6 hb6 hX2 hX9 hX8 hownz hnz e0 e1 e2 e3 b0 b1 b2 b3 f0 f1 f2 f3 z0 z2 z3
            go_wp2
            go_roundw
            case rel => exact ⟨t + 1, by omega, by go_num, by rw [hla.out]; rfl, ho6, hone6, hB6, hsz6, fun _ => hk6.out⟩
            case measure => simp [intOf]; omega
        · have hnt : ¬ (t : Int) < (A.length : Int) := by omega
          obtain rfl : t = A.length := by omega
          rw [List.take_length, ← hRR, ← lks_succ] at hownz
          clear hkeep hra hgb hub harc
          go_wp2
          go_roundw
          case rel => exact ⟨k + 1, by omega, by go_num, hownz, honez, hnz⟩
          case measure => simp [intOf]; omega
    · have hnk : ¬ (k : Int) < (N : Int) := by omega
      obtain rfl : k = N := by omega
      have hfin := hidden (slR_of_owns hown.out)
      have hBf : Hid (Below w.heap.size w wr) := hB0.out.trans (hnx.out.mono hB0.out.size)
      obtain ⟨a1, n1, c1, rfl⟩ : ∃ a n c, u5 = .slice a n c := by
        obtain ⟨a, c, h, _⟩ := hfin.out
        exact ⟨a, _, c, h⟩
      clear hown
      go_wp2
      go_ret
      exact ⟨_, _, _, rfl, hfin.out, hBf.out⟩
end Go.Proofs.Ytikajhpgoehboaa
/-
  THE REFERENCE's LINKS OF A STEP, by contract: of each node the least arc to each other node; what the reference tells of the step's arcs is premised.
-/
namespace Go.Proofs.Ytikajhpgoehboaa
open Go.ChangeShapes Go.WideShapes Go.ChangeAt Go.RowKit Go.Maps

/-- The links of one row's arcs to the nodes below b. -/
def lmin (a b : Nat) (l : List Ar) : List Lk := (List.range b).filterMap fun b => (leastB Ar.to Ar.wt b l).map fun k => (⟨(a : Nat), (b : Nat), (k : Nat), 1⟩ : Lk)
/-- The links of the rows of the first k nodes, N in all. -/
def rlks (N k : Nat) (R : Nat → List Ar) : List Lk := (List.range k).flatMap fun a => lmin a N (R a)
theorem lmin_succ (a b : Nat) (l : List Ar) : lmin a (b + 1) l = lmin a b l ++ (match leastB Ar.to Ar.wt b l with | none => [] | some k => [⟨(a : Nat), (b : Nat), (k : Nat), 1⟩]) := by
  unfold lmin
  rw [List.range_succ, List.filterMap_append]
  congr 1
  rw [List.filterMap_cons]
  cases leastB Ar.to Ar.wt b l <;> rfl
theorem lmin_len (a b : Nat) (l : List Ar) : (lmin a b l).length ≤ b := by
  unfold lmin
  exact Nat.le_trans (List.length_filterMap_le _ _) (by rw [List.length_range]; exact Nat.le_refl _)
theorem rlks_succ (N k : Nat) (R : Nat → List Ar) : rlks N (k + 1) R = rlks N k R ++ lmin k N (R k) := by
  unfold rlks
  rw [List.range_succ, List.flatMap_append]
  simp
theorem rlks_len (N k : Nat) (R : Nat → List Ar) : (rlks N k R).length ≤ k * N := by
  induction k with
  | zero => simp [rlks]
  | succ k ih =>
    rw [rlks_succ, List.length_append, Nat.succ_mul]
    have := lmin_len k N (R k)
    omega
/-- Where rows are in order, the first of each run are the least. -/
theorem lks_eq (N : Nat) (R : Nat → List Ar) (h1 : ∀ a, a < N → Sorted Ar.to Ar.wt (R a)) (h2 : ∀ a, a < N → ∀ x ∈ R a, x.to < N) : lks N R = rlks N N R := by
  unfold lks rlks
  rw [linksOf_congr fun a ha => firsts_least (h1 a ha) (h2 a ha)]
  unfold linksOf
  rw [List.map_flatMap, List.flatMap_def, List.flatMap_def]
  congr 1
  refine List.map_congr_left fun a _ => ?_
  unfold lmin
  rw [List.map_filterMap, List.map_filterMap]
  refine filterMap_same fun b _ => ?_
  cases leastB Ar.to Ar.wt b (R a) <;> rfl
/-- The links rise. -/
theorem rlks_rise (N : Nat) (R : Nat → List Ar) : (rlks N N R).Pairwise fun x y => x.a < y.a ∨ (x.a = y.a ∧ x.b < y.b) := by
  unfold rlks
  rw [List.pairwise_flatMap]
  refine ⟨fun a _ => ?_, ?_⟩
  · unfold lmin
    rw [List.pairwise_filterMap]
    refine List.pairwise_lt_range.imp fun {p q} h x hx y hy => ?_
    cases hp : leastB Ar.to Ar.wt p (R a) with
    | none => rw [hp] at hx; cases hx
    | some k =>
      cases hq : leastB Ar.to Ar.wt q (R a) with
      | none => rw [hq] at hy; cases hy
      | some j =>
        rw [hp] at hx; rw [hq] at hy
        cases hx; cases hy
        exact .inr ⟨rfl, by show ((p : Nat) : Int) < (q : Nat); omega⟩
  · refine List.pairwise_lt_range.imp fun {p q} h x hx y hy => ?_
    unfold lmin at hx hy
    obtain ⟨i, _, hi⟩ := List.mem_filterMap.1 hx
    obtain ⟨j, _, hj⟩ := List.mem_filterMap.1 hy
    obtain ⟨k, _, rfl⟩ := Option.map_eq_some_iff.1 hi
    obtain ⟨m, _, rfl⟩ := Option.map_eq_some_iff.1 hj
    exact .inl (by show ((p : Nat) : Int) < (q : Nat); omega)
theorem rlks_mem (N : Nat) (R : Nat → List Ar) : ∀ x ∈ rlks N N R, ∃ a b k : Nat, a < N ∧ b < N ∧ x = ⟨(a : Nat), (b : Nat), (k : Nat), 1⟩ := by
  intro x hx
  obtain ⟨a, ha, hx⟩ := List.mem_flatMap.1 hx
  obtain ⟨i, hi, h⟩ := List.mem_filterMap.1 hx
  obtain ⟨k, _, rfl⟩ := Option.map_eq_some_iff.1 h
  exact ⟨a, i, k, List.mem_range.1 ha, List.mem_range.1 hi, rfl⟩
theorem box2h {x : World} {b : Nat} {c0 c1 : Value} {t : TypeId} (h : x.heap[b]? = some (.cells #[c0, c1] t)) : (x.cell? ⟨b, 0, none⟩ = some c0 ∧ x.cell? ⟨b, 1, none⟩ = some c1) ∧ x.frozen? ⟨b, 0, none⟩ = false ∧ x.frozen? ⟨b, 1, none⟩ = false := by
  simp [World.cell?, World.frozen?, h]
theorem heap_new3 (w : World) (o1 o2 : Obj) : ((w.alloc o1).alloc o2).heap[w.heap.size + 1]? = some o2 := by
  have h := heap_alloc_new (w.alloc o1) o2
  rwa [show (w.alloc o1).heap.size = w.heap.size + 1 by show (w.heap.push o1).size = _; simp] at h
set_option maxHeartbeats 3200000 in
set_option maxRecDepth 100000 in
theorem redges_p (N : Nat) (R : Nat → List Ar) (a : Option Addr) (c : Nat) (b : Option Addr) (m d : Nat) (s : ByteArray) (back : Bool) (w : World) (hN : N ≤ 1000) (hR : ∀ n, (R n).length ≤ 1000)
    (hst : ∀ (n : Nat) z, Below w.heap.size w z → Calls Try.prog 23 #[.agg #[.slice a N c, .slice b m d], .int .i64 (n : Int), .agg #[.string s, .bool back]] z fun e w' => ∃ (a' : Option Addr) (c' : Nat), e = .returned (.slice a' (R n).length c') ∧ RowAt w' a' (arR.flat (R n)) ∧ Below z.heap.size z w') :
    Calls Try.prog 11 #[.agg #[.slice a N c, .slice b m d], .agg #[.string s, .bool back]] w fun e w' => ∃ a n c, e = .returned (.slice a n c) ∧ SlR linkR w' (.slice a n c) (rlks N N R) ∧ Below w.heap.size w w' := by
  obtain ⟨i0, hi, hz0, hz1, hz2⟩ := info_parts infoL
  obtain ⟨wb, hwb⟩ : ∃ wb, wb = (w.alloc (.cells #[.slice a N c, .slice b m d] 25)).alloc (.cells #[.string s, .bool back] 27) := ⟨_, rfl⟩
  have hB0 : Hid (Below w.heap.size w wb) := by rw [hwb]; exact ((Below.refl _ _).alloc (Nat.le_refl _) _).alloc (by simp) _
  have hX0 : Hid (wb.heap[w.heap.size]? = some (.cells #[.slice a N c, .slice b m d] 25)) := by
    rw [hwb]
    exact heap_alloc_old (w.alloc (.cells #[.slice a N c, .slice b m d] 25)) _ (by simp) |>.trans (heap_alloc_new w _)
  have hX1 : Hid (wb.heap[w.heap.size + 1]? = some (.cells #[.string s, .bool back] 27)) := by
    rw [hwb]; exact heap_new3 w _ _
  replace hst := hidden hst
  go_enter Try.func11, Try.ntmps11
  go_wp2_with fail
  rw [← hwb]
  replace hwb := hidden hwb.symm
  have hWs : wb.heap.size = w.heap.size + 1 + 1 := by rw [← hwb.out]; simp
  have hO0 : Hid ((wb.alloc (.cells #[] 73)).ownsRow wb.heap.size 73 4 (.slice (some ⟨w.heap.size + 1 + 1, 0, none⟩) 0 0) (rlks N 0 R).length (linkR.flat (rlks N 0 R))) := hidden (by
    rw [← hWs]
    exact World.ownsRow_made (base := wb.heap.size) (e := 73) (size := 4) wb #[] 0 (Nat.le_refl _) (by unfold maxLen; omega) rfl)
  clear hWs
  have hk0 : Hid (Below wb.heap.size wb (wb.alloc (.cells #[] 73))) := hidden ((Below.refl _ _).alloc (Nat.le_refl _) _)
  go_wp2_with fail
  generalize wb.alloc (.cells #[] 73) = x at *
  go_loopw [5, 6] (fun u i wr => ∃ k : Nat, k ≤ N ∧ i = .int .i64 k ∧ Hid (wr.ownsRow wb.heap.size 73 4 u (rlks N k R).length (linkR.flat (rlks N k R))) ∧ u.oneCell' = true ∧ Hid (Below wb.heap.size wb wr))
    (fun _ i _ => N - (intOf i).toNat)
  case atStart => exact ⟨0, Nat.zero_le _, rfl, hO0, rfl, hk0⟩
  case round =>
    clear hO0 hk0
    obtain ⟨k, hk, rfl, hown, hone, hnx⟩ := hrel
    by_cases hlt : k < N
    · have hlt' : (k : Int) < (N : Int) := by omega
      have hRk := hR k
      have hstk := hidden (hst.out k)
      have hlks := hidden (rlks_len N k R)
      have hfin := hidden (rlks_succ N k R)
      obtain ⟨⟨b0, b1⟩, -⟩ := box2h (box_below hX0.out hnx.out)
      have hown0 : Hid (wr.ownsRow wb.heap.size 73 4 u5 (rlks N k R ++ lmin k 0 (R k)).length (linkR.flat (rlks N k R ++ lmin k 0 (R k)))) := by
        rw [show lmin k 0 (R k) = [] from rfl, List.append_nil]; exact hown
      generalize hRR : R k = A at *
      replace hRR := hidden hRR
      clear hown
      go_wp2_with fail
      clear b0 b1
      go_loopw [5, 7] (fun u j z => ∃ t : Nat, t ≤ N ∧ j = .int .i64 t ∧ Hid (z.ownsRow wb.heap.size 73 4 u (rlks N k R ++ lmin k t A).length (linkR.flat (rlks N k R ++ lmin k t A))) ∧ u.oneCell' = true ∧ Hid (Below wb.heap.size wb z))
        (fun _ j _ => N - (intOf j).toNat)
      case atStart => exact ⟨0, Nat.zero_le _, rfl, hown0, hone, hnx⟩
      case round =>
        clear hown0 hone hnx
        obtain ⟨t, ht, rfl, hown, hone, hnx⟩ := hrel
        obtain ⟨⟨b0, b1⟩, -⟩ := box2h (box_below hX0.out hnx.out)
        obtain ⟨⟨c0, c1⟩, -⟩ := box2h (box_below hX1.out hnx.out)
        by_cases hlt2 : t < N
        · have hlt2' : (t : Int) < (N : Int) := by omega
          have hs1 := hstk.out wr (hB0.out.trans (hnx.out.mono hB0.out.size))
          have hsu := hidden (lmin_succ k t A)
          have hll := hidden (lmin_len k t A)
          go_wp2_with fail
          refine hs1.mono ?_
          rintro e y ⟨ga, gc, rfl, hra, hBy⟩
          clear hs1 b0 b1 c0 c1
          have hown2 := hidden (owns_keep hown.out hBy)
          have hn2 : Hid (Below wb.heap.size wb y) := hnx.out.trans (hBy.mono hnx.out.size)
          replace hra := hidden hra
          clear hown hnx hBy
          go_wp2_with fail
          go_loop [9, 10] (fun l i => ∃ q : Nat, q ≤ A.length ∧ i = .int .i64 q ∧ l = .int .i64 (lastI ((A.take q).foldl (updB Ar.to Ar.wt t) none)))
            (fun _ i => A.length - (intOf i).toNat)
          case atStart => exact ⟨0, Nat.zero_le _, rfl, rfl⟩
          case round =>
            obtain ⟨q, hq, rfl, rfl⟩ := hrel
            by_cases hlt3 : q < A.length
            · have hlt3' : (q : Int) < (A.length : Int) := by omega
              obtain ⟨gb, off, rfl, hbb, d0, d1, d2, d3⟩ := arc_at hra.out hlt3
              have htk := hidden (take_snocR A Ar.none q hlt3)
              have hfo : Hid ((A.take (q + 1)).foldl (updB Ar.to Ar.wt t) none = updB Ar.to Ar.wt t ((A.take q).foldl (updB Ar.to Ar.wt t) none) (A.getD q Ar.none)) := hidden (by rw [htk.out, List.foldl_append]; rfl)
              generalize A.getD q Ar.none = p at *
              generalize (A.take q).foldl (updB Ar.to Ar.wt t) none = M at *
              obtain ⟨pl, pt, pw, pe⟩ := p
              simp only at d0 d1 d2 d3
              clear htk
              by_cases hb : pt = t
              · have hb1 : (((pt : Nat) : Int) == (t : Int)) = true := by simp [hb]
                have hb2 : ((pt : Nat) : Int) = (t : Int) := by rw [hb]
                cases M with
                | none =>
                  have hE : Hid ((A.take (q + 1)).foldl (updB Ar.to Ar.wt t) none = some pw) := hidden (by rw [hfo.out]; simp [updB, hb])
                  replace hb := hidden hb
                  clear hfo
                  have hn1 : lastI none = -1 := rfl
                  rw [hn1]
                  go_wp2
                  go_round
                  case rel => exact ⟨q + 1, by omega, by go_num, by rw [hE.out]; rfl⟩
                  case measure => simp [intOf]; omega
                | some r =>
                  have hn1 : lastI (some r) = (r : Int) := rfl
                  have hn2 : ¬ (r : Int) < 0 := by omega
                  by_cases hpr : pw < r
                  · have hpr' : (pw : Int) < (r : Int) := by omega
                    have hE : Hid ((A.take (q + 1)).foldl (updB Ar.to Ar.wt t) none = some pw) := hidden (by rw [hfo.out]; simp [updB, hb, hpr])
                    replace hb := hidden hb
                    clear hfo
                    rw [hn1]
                    go_wp2
                    go_round
                    case rel => exact ⟨q + 1, by omega, by go_num, by rw [hE.out]; rfl⟩
                    case measure => simp [intOf]; omega
                  · have hpr' : ¬ (pw : Int) < (r : Int) := by omega
                    have hE : Hid ((A.take (q + 1)).foldl (updB Ar.to Ar.wt t) none = some r) := hidden (by rw [hfo.out]; simp [updB, hb, hpr])
                    replace hb := hidden hb
                    clear hfo
                    rw [hn1]
                    go_wp2
                    go_round
                    case rel => exact ⟨q + 1, by omega, by go_num, by rw [hE.out]; rfl⟩
                    case measure => simp [intOf]; omega
              · have hb1 : (((pt : Nat) : Int) == (t : Int)) = false := by simp; omega
                have hb2 : ¬ ((pt : Nat) : Int) = (t : Int) := by omega
                have hE : Hid ((A.take (q + 1)).foldl (updB Ar.to Ar.wt t) none = M) := hidden (by rw [hfo.out]; simp [updB, hb])
                replace hb := hidden hb
                clear hfo
                go_wp2
                go_round
                case rel => exact ⟨q + 1, by omega, by go_num, by rw [hE.out]⟩
                case measure => simp [intOf]; omega
            · have hlt3' : ¬ (q : Int) < (A.length : Int) := by omega
              obtain rfl : q = A.length := by omega
              rw [List.take_length, show A.foldl (updB Ar.to Ar.wt t) none = leastB Ar.to Ar.wt t A from rfl]
              clear hra
              generalize leastB Ar.to Ar.wt t A = M at *
              cases M with
              | none =>
                have hO3 : Hid (y.ownsRow wb.heap.size 73 4 u5 (rlks N k R ++ lmin k (t + 1) A).length (linkR.flat (rlks N k R ++ lmin k (t + 1) A))) := by
                  rw [hsu.out]
                  simp only [List.append_nil]
                  exact hown2
                clear hown2 hsu
                have hn1 : lastI none = -1 := rfl
                rw [hn1]
                go_wp2
                go_roundw
                case rel => exact ⟨t + 1, by omega, by go_num, hO3, hone, hn2⟩
                case measure => simp [intOf]; omega
              | some r =>
                have hn1 : lastI (some r) = (r : Int) := rfl
                have hn3 : (0 : Int) ≤ (r : Int) := by omega
                rw [hn1]
                have hlen : Hid ((rlks N k R ++ lmin k t A).length ≤ 1001000) := by
                  show _ ≤ _
                  rw [List.length_append]
                  have h1 := hlks.out
                  have h2 := hll.out
                  have h3 : k * N ≤ 1000 * 1000 := Nat.mul_le_mul (by omega) hN
                  omega
                have hsz : Hid (wb.heap.size ≤ y.heap.size) := hn2.out.size
                go_wp2_with (at_builtin; go_loud (refine wpList_append_own _ rfl _ _ 35 rfl wb.heap.size 73 i0 (.agg #[.int .i64 0, .int .i64 0, .int .i64 0, .int .u64 0]) 4 32 Try.underlying35 hi hz0 hz1 hz2 rfl (by decide) _ _ _ rfl (hown2.out.alloc _) ⟨y.heap.size, 0, none⟩ 1 1 [.int .i64 (k : Int), .int .i64 (t : Int), .int .i64 (r : Int), .int .u64 1] rfl rfl (cells_new y [_, _, _, _] _) (by intro u hu; simp at hu; rcases hu with rfl | rfl | rfl | rfl <;> rfl) (by have := hlen.out; unfold maxLen; omega) (by have := hlen.out; omega) (by have := hsz.out; simp at *; omega) ?_); intro v' w6 hown6 hgrow6 _)
                have hB6 : Hid (Below wb.heap.size wb w6) := (hn2.out.alloc hsz.out _).grown hgrow6 (by have := hsz.out; simp; omega) (fun j hj => by have := (hown2.out.lt j hj).1; omega)
                have ho6 : Hid (w6.ownsRow wb.heap.size 73 4 v' (rlks N k R ++ lmin k (t + 1) A).length (linkR.flat (rlks N k R ++ lmin k (t + 1) A))) := by
                  show World.ownsRow _ _ _ _ _ _ _
                  rw [hsu.out]
                  simp only
                  rw [← List.append_assoc, List.length_append, Rec.flat_app]
                  exact hown6
                have hone6 : v'.oneCell' = true := by
                  rcases hown6.2 with ⟨rfl, _⟩ | ⟨_, _, _, rfl, _⟩ <;> rfl
                clear hgrow6 hown6 hown2 hn2 hsu hll hlen hsz
                go_wp2
                go_roundw
                case rel => exact ⟨t + 1, by omega, by go_num, ho6, hone6, hB6⟩
                case measure => simp [intOf]; omega
        · have hlt2' : ¬ (t : Int) < (N : Int) := by omega
          obtain rfl : t = N := by omega
          have ho7 : Hid (wr.ownsRow wb.heap.size 73 4 u5 (rlks t (k + 1) R).length (linkR.flat (rlks t (k + 1) R))) := by
            rw [hfin.out]; exact hown
          clear hown c0 c1
          go_wp2
          go_roundw
          case rel => exact ⟨k + 1, by omega, by go_num, ho7, hone, hnx⟩
          case measure => simp [intOf]; omega
    · have hlt' : ¬ (k : Int) < (N : Int) := by omega
      obtain rfl : k = N := by omega
      obtain ⟨⟨b0, b1⟩, -⟩ := box2h (box_below hX0.out hnx.out)
      have hfin := hidden (slR_of_owns hown.out)
      have hBf : Hid (Below w.heap.size w wr) := hB0.out.trans (hnx.out.mono hB0.out.size)
      obtain ⟨a1, n1, c1, rfl⟩ : ∃ a n c, u5 = .slice a n c := by
        obtain ⟨a, c, h, _⟩ := hfin.out
        exact ⟨a, _, c, h⟩
      clear hown
      go_wp2
      go_ret
      exact ⟨_, _, _, rfl, hfin.out, hBf.out⟩
end Go.Proofs.Ytikajhpgoehboaa
