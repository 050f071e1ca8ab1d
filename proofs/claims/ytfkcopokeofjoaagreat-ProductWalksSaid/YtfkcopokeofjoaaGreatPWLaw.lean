/-
  THE FIRST OF EACH RUN: of a list in order (by t, and then by v) the first one of each t is the least one of each t. No function is named here.
-/
import Derived.Test.YtfkcopokeofjoaaGreatRows
import Derived.Test.YtfkcopokeofjoaaGreatCsStep
import Derived.Test.YtfkcopokeofjoaaGreatGRCheck
import Derived.Test.YtfkcopokeofjoaaGreatCsNew
import Derived.Test.YtfkcopokeofjoaaGreatPWalk4
import Derived.Test.YtfkcopokeofjoaaGreatRec
import Derived.Deep.QuietTactic
import Derived.BigQuiet
import Derived.Test.YtfkcopokeofjoaaGreatOrder
import Derived.Test.YtfkcopokeofjoaaGreatXCodeH
import Derived.RangeFuncStops
import Derived.Deep.RegionHeld3
namespace Go.Proofs.YtfkcopokeofjoaaGreat

section
variable {α : Type} (t v : α → Nat)
/-- The first of each run; p is the t of the one before. -/
def firsts : Option Nat → List α → List α
  | _, [] => []
  | p, x :: r => if p = some (t x) then firsts p r else x :: firsts (some (t x)) r
/-- The least v of those of t = b, as a walk finds it. -/
def updB (b : Nat) (m : Option Nat) (x : α) : Option Nat := if t x = b then (match m with | none => some (v x) | some k => if v x < k then some (v x) else some k) else m
def leastB (b : Nat) (l : List α) : Option Nat := l.foldl (updB t v b) none
def Sorted (l : List α) : Prop := l.Pairwise fun x y => t x < t y ∨ (t x = t y ∧ v x ≤ v y)
variable {t v}
theorem fold_other {b : Nat} : ∀ {l : List α} {m : Option Nat}, (∀ x ∈ l, t x ≠ b) → l.foldl (updB t v b) m = m
  | [], _, _ => rfl
  | x :: r, m, h => by
    rw [List.foldl_cons, show updB t v b m x = m from if_neg (h x List.mem_cons_self)]
    exact fold_other fun y hy => h y (List.mem_cons_of_mem _ hy)
theorem fold_least {b k : Nat} : ∀ {l : List α}, (∀ x ∈ l, t x = b → k ≤ v x) → l.foldl (updB t v b) (some k) = some k
  | [], _ => rfl
  | x :: r, h => by
    have e : updB t v b (some k) x = some k := by
      unfold updB
      by_cases hb : t x = b
      · have h1 := h x List.mem_cons_self hb
        rw [if_pos hb]
        simp only
        rw [if_neg (by omega)]
      · exact if_neg hb
    rw [List.foldl_cons, e]
    exact fold_least fun y hy => h y (List.mem_cons_of_mem _ hy)
theorem leastB_skip {b : Nat} {x : α} {r : List α} (h : t x ≠ b) : leastB t v b (x :: r) = leastB t v b r := by
  unfold leastB
  rw [List.foldl_cons, show updB t v b none x = none from if_neg h]
theorem leastB_head {x : α} {r : List α} (h : Sorted t v (x :: r)) : leastB t v (t x) (x :: r) = some (v x) := by
  unfold leastB
  rw [List.foldl_cons, show updB t v (t x) none x = some (v x) from if_pos rfl]
  refine fold_least fun y hy hb => ?_
  rcases (List.pairwise_cons.1 h).1 y hy with h1 | h1 <;> omega
theorem leastB_none {b : Nat} {l : List α} (h : ∀ x ∈ l, t x ≠ b) : leastB t v b l = none := fold_other h
theorem filterMap_same {β γ : Type} {f g : β → Option γ} : ∀ {l : List β}, (∀ x ∈ l, f x = g x) → l.filterMap f = l.filterMap g
  | [], _ => rfl
  | x :: r, h => by rw [List.filterMap_cons, List.filterMap_cons, h x List.mem_cons_self, filterMap_same fun y hy => h y (List.mem_cons_of_mem _ hy)]
/-- Where those begin that may come. -/
def lowOf : Option Nat → Nat
  | none => 0
  | some q => q + 1
theorem firsts_is (N : Nat) : ∀ (l : List α) (p : Option Nat), Sorted t v l → (∀ x ∈ l, t x < N) → (∀ x ∈ l, lowOf p ≤ t x + 1) →
    (firsts t p l).map (fun x => (t x, v x)) = (List.range' (lowOf p) (N - lowOf p)).filterMap fun b => (leastB t v b l).map fun k => (b, k)
  | [], p, _, _, _ => by
    show [] = (List.range' (lowOf p) (N - lowOf p)).filterMap fun _ => none
    exact (List.filterMap_eq_nil_iff.2 fun _ _ => rfl).symm
  | x :: r, p, hs, hN, hlo => by
    have hs' := (List.pairwise_cons.1 hs).2
    have hN' : ∀ y ∈ r, t y < N := fun y hy => hN y (List.mem_cons_of_mem _ hy)
    have hx := hN x List.mem_cons_self
    have hge : ∀ y ∈ r, t x ≤ t y := fun y hy => by rcases (List.pairwise_cons.1 hs).1 y hy with h1 | h1 <;> omega
    by_cases he : p = some (t x)
    · have e1 : firsts t p (x :: r) = firsts t p r := by rw [firsts, if_pos he]
      rw [e1, firsts_is N r p hs' hN' (fun y hy => hlo y (List.mem_cons_of_mem _ hy))]
      refine filterMap_same fun b hb => ?_
      rw [List.mem_range'_1] at hb
      subst he
      simp only [lowOf] at hb
      rw [leastB_skip (by omega)]
    · have e1 : firsts t p (x :: r) = x :: firsts t (some (t x)) r := by rw [firsts, if_neg he]
      have hl : lowOf p ≤ t x := by
        have h1 := hlo x List.mem_cons_self
        cases p with
        | none => simp [lowOf]
        | some q =>
          simp only [lowOf] at h1 ⊢
          have : q ≠ t x := fun e => he (by rw [e])
          omega
      rw [e1, List.map_cons, firsts_is N r (some (t x)) hs' hN' (fun y hy => by have := hge y hy; simp only [lowOf]; omega)]
      have e2 : List.range' (lowOf p) (N - lowOf p) = List.range' (lowOf p) (t x - lowOf p) ++ (t x :: List.range' (t x + 1) (N - (t x + 1))) := by
        have h1 : t x :: List.range' (t x + 1) (N - (t x + 1)) = List.range' (t x) (N - t x) := by
          rw [show N - t x = (N - (t x + 1)) + 1 by omega, List.range'_succ]
        rw [h1, show t x = lowOf p + 1 * (t x - lowOf p) by omega]
        rw [show lowOf p + 1 * (t x - lowOf p) - lowOf p = t x - lowOf p by omega, List.range'_append]
        congr 1
        omega
      rw [e2, List.filterMap_append, List.filterMap_cons]
      have e3 : (List.range' (lowOf p) (t x - lowOf p)).filterMap (fun b => (leastB t v b (x :: r)).map fun k => (b, k)) = [] := by
        rw [List.filterMap_eq_nil_iff]
        intro b hb
        rw [List.mem_range'_1] at hb
        rw [leastB_none]
        · rfl
        · intro y hy
          rcases List.mem_cons.1 hy with rfl | hy
          · omega
          · have := hge y hy; omega
      rw [e3, leastB_head hs, List.nil_append]
      simp only [Option.map_some]
      congr 1
      refine filterMap_same fun b hb => ?_
      rw [List.mem_range'_1] at hb
      simp only [lowOf] at hb
      rw [leastB_skip (by omega)]
/-- The first of each run are the least of each b below N, in order. -/
theorem firsts_least {N : Nat} {l : List α} (hs : Sorted t v l) (hN : ∀ x ∈ l, t x < N) : (firsts t none l).map (fun x => (t x, v x)) = (List.range N).filterMap fun b => (leastB t v b l).map fun k => (b, k) := by
  rw [firsts_is N l none hs hN (fun _ _ => Nat.zero_le _), List.range_eq_range']
  rfl
end
/-- The links of all nodes, each node's by its other end. -/
def linksOf (N : Nat) (G : Nat → List (Nat × Nat)) : List (Nat × Nat × Nat) := (List.range N).flatMap fun a => (G a).map fun p => (a, p.1, p.2)
theorem linksOf_congr {N : Nat} {G H : Nat → List (Nat × Nat)} (h : ∀ a, a < N → G a = H a) : linksOf N G = linksOf N H := by
  unfold linksOf
  rw [List.flatMap_def, List.flatMap_def]
  congr 1
  exact List.map_congr_left fun a ha => by rw [h a (List.mem_range.1 ha)]
theorem linksOf_succ (N : Nat) (G : Nat → List (Nat × Nat)) : linksOf (N + 1) G = linksOf N G ++ (G N).map fun p => (N, p.1, p.2) := by
  unfold linksOf
  rw [List.range_succ, List.flatMap_append]
  simp
theorem linksOf_rise {N : Nat} {G : Nat → List (Nat × Nat)} (hG : ∀ a, a < N → (G a).Pairwise fun p q => p.1 < q.1) : (linksOf N G).Pairwise fun x y => x.1 < y.1 ∨ (x.1 = y.1 ∧ x.2.1 < y.2.1) := by
  unfold linksOf
  rw [List.pairwise_flatMap]
  refine ⟨fun a ha => ?_, ?_⟩
  · rw [List.pairwise_map]
    exact (hG a (List.mem_range.1 ha)).imp fun h => Or.inr ⟨rfl, h⟩
  · refine List.pairwise_lt_range.imp fun {a b} h x hx y hy => ?_
    obtain ⟨p, _, rfl⟩ := List.mem_map.1 hx
    obtain ⟨q, _, rfl⟩ := List.mem_map.1 hy
    exact Or.inl h
theorem least_rise {N : Nat} {f : Nat → Option Nat} : ((List.range N).filterMap fun b => (f b).map fun k => (b, k)).Pairwise fun p q => p.1 < q.1 := by
  rw [List.pairwise_filterMap]
  refine List.pairwise_lt_range.imp fun {a b} h x hx y hy => ?_
  cases ha : f a with
  | none => rw [ha] at hx; cases hx
  | some k =>
    cases hb : f b with
    | none => rw [hb] at hy; cases hy
    | some m =>
      rw [ha] at hx; rw [hb] at hy
      cases hx; cases hy
      exact h
theorem linksOf_low {N M : Nat} {G : Nat → List (Nat × Nat)} (hG : ∀ a, a < N → ∀ p ∈ G a, p.1 < M) : ∀ x ∈ linksOf N G, x.1 < N ∧ x.2.1 < M := by
  intro x hx
  obtain ⟨a, ha, hx⟩ := List.mem_flatMap.1 hx
  obtain ⟨p, hp, rfl⟩ := List.mem_map.1 hx
  exact ⟨List.mem_range.1 ha, hG a (List.mem_range.1 ha) p hp⟩
/-- As many as all rows have together, at the most. -/
theorem firsts_len {α : Type} {t : α → Nat} : ∀ (l : List α) (p : Option Nat), (firsts t p l).length ≤ l.length
  | [], _ => Nat.le_refl _
  | x :: r, p => by
    rw [firsts]
    split
    · exact Nat.le_succ_of_le (firsts_len r p)
    · exact Nat.succ_le_succ (firsts_len r _)
/-- The t of the last one. -/
def lastT {α : Type} (t : α → Nat) : Option Nat → List α → Option Nat
  | p, [] => p
  | _, x :: r => lastT t (some (t x)) r
theorem lastT_snoc {α : Type} {t : α → Nat} (x : α) : ∀ (l : List α) (p : Option Nat), lastT t p (l ++ [x]) = some (t x)
  | [], _ => rfl
  | y :: r, _ => lastT_snoc x r (some (t y))
theorem firsts_snoc {α : Type} {t : α → Nat} (x : α) : ∀ (l : List α) (p : Option Nat), firsts t p (l ++ [x]) = firsts t p l ++ (if lastT t p l = some (t x) then [] else [x])
  | [], p => by
    rw [List.nil_append, firsts, firsts, firsts, List.nil_append]
    rfl
  | y :: r, p => by
    rw [List.cons_append, firsts, firsts, lastT]
    by_cases h : p = some (t y)
    · rw [if_pos h, if_pos h, firsts_snoc x r p, h]
    · rw [if_neg h, if_neg h, firsts_snoc x r (some (t y)), List.cons_append]
def lastI : Option Nat → Int
  | none => -1
  | some q => (q : Nat)
theorem lastI_eq (p : Option Nat) (k : Nat) : ((k : Nat) : Int) = lastI p ↔ p = some k := by
  cases p with
  | none => simp only [lastI]; exact ⟨fun h => by omega, fun h => by cases h⟩
  | some q => simp only [lastI, Option.some.injEq]; omega
end Go.Proofs.YtfkcopokeofjoaaGreat
/-
  WHAT LAWS OVER A GRAPH's ROWS SHARE: a graph taken once more, checked; the reference's row and step as the program's rows tell them; a step's arcs are in order.
-/
namespace Go.Proofs.YtfkcopokeofjoaaGreat
open Go.ChangeShapes Go.WideShapes Go.ChangeAt Go.RowKit Go.Maps

theorem cell_str {P : Program} {w : World} {r : Reach} {base : Nat} {u : TypeId} {x : Value} (hu : P.underlying u = some .string) (h : Cell.okWide P w r base u x) : ∃ s, x = .string s := by
  unfold Cell.okWide at h
  rw [hu] at h
  unfold Cell.ok at h
  rw [hu] at h
  cases x <;> simp_all
theorem cell_bool {P : Program} {w : World} {r : Reach} {base : Nat} {u : TypeId} {x : Value} (hu : P.underlying u = some .bool) (h : Cell.okWide P w r base u x) : ∃ b, x = .bool b := by
  unfold Cell.okWide at h
  rw [hu] at h
  unfold Cell.ok at h
  rw [hu] at h
  cases x <;> simp_all
theorem OwnG.below {g : Gr} {vs : List NdV} {a : Option Addr} {n c : Nat} {b : Option Addr} {m d : Nat} {x y : World} (h : OwnG g vs a n c b m d x) (hB : Below x.heap.size x y) : OwnG g vs a n c b m d y := h.keep (.of_below hB)
theorem few_b (g : Gr) (vs : List NdV) (a : Option Addr) (n c : Nat) (b : Option Addr) (m d : Nat) (w : World) (hg : OwnG g vs a n c b m d w) (hf : g.few = g) (hs : g.sm) :
    Calls Tryz.prog 4 #[.agg #[.slice a n c, .slice b m d]] w fun e w' => ∃ (us : List NdV) (a' : Option Addr) (n' c' : Nat) (b' : Option Addr) (m' d' : Nat), e = .returned (.agg #[.slice a' n' c', .slice b' m' d']) ∧ OwnG g us a' n' c' b' m' d' w' ∧ Below w.heap.size w w' :=
  (gfew_c g _ _ w hg.holds (by have := hs.1; omega) (by have := hs.2.2.1; omega) (fun x hx => by have := (hs.2.1 x hx).2.1; omega)).mono fun e w' ⟨us, a', n', c', b', m', d', he, h1, h2, hB⟩ => by
    rw [hf] at h1 h2
    exact ⟨us, a', n', c', b', m', d', he, ⟨h1, h2⟩, hB⟩
theorem OwnG.setS {g : Gr} {vs : List NdV} {a : Option Addr} {n c : Nat} {b : Option Addr} {m d : Nat} {x : World} {B : Nat} {cs : Array Value} (h : OwnG g vs a n c b m d x) (hb : x.heap[B]? = some (.cells cs 48)) (j : Nat) (v : Value) : OwnG g vs a n c b m d (x.setCell ⟨B, j, none⟩ v) :=
  ⟨⟨own_set h.nodes.row hb (by decide) _ _, h.nodes.len, fun i hi => ⟨(h.nodes.each i hi).1, own_set (h.nodes.each i hi).2 hb (by decide) _ _⟩⟩, own_set h.edges hb (by decide) _ _⟩
theorem rggood_c (g : Gr) (vs : List NdV) (a : Option Addr) (n c : Nat) (b : Option Addr) (m d : Nat) (w : World) (hg : OwnG g vs a n c b m d w) (hs : g.sm) :
    Calls Tryz.prog 9 #[.agg #[.slice a n c, .slice b m d]] w fun e w' => e = .returned (.bool ((checkG g).2 == 0)) ∧ Below w.heap.size w w' := by
  have hB0 := (Below.refl w.heap.size w).alloc (Nat.le_refl _) (.cells #[.slice a n c, .slice b m d] 25)
  have hX := heap_alloc_new w (.cells #[.slice a n c, .slice b m d] 25)
  have hc := rcheck_c g vs a n c b m d _ (hg.calm hB0) hs
  obtain ⟨⟨b0, b1⟩, -⟩ := box2f hX
  replace hB0 := hidden hB0
  clear hX hg hs
  generalize (checkG g).1 = p at *
  generalize (checkG g).2 = q at *
  go_enter Tryz.func9, Tryz.ntmps9
  go_wp2_with fail
  refine hc.mono ?_
  rintro e w5 ⟨rfl, hB5⟩
  have hBL : Hid (Below w.heap.size w w5) := hB0.out.trans (hB5.mono hB0.out.size)
  clear hB5 hB0 b0 b1 hc
  go_wp2
  go_ret
  exact ⟨by first | done | rfl, hBL.out⟩
/-- A list of arcs comes back. -/
def Rets (R : List Ar) (z : World) (e : Ending) (w' : World) : Prop := ∃ (a : Option Addr) (c : Nat), e = .returned (.slice a R.length c) ∧ RowAt w' a (arR.flat R) ∧ Below z.heap.size z w'
theorem rowAr {w : World} {B : Nat} {a : Option Addr} {c : Nat} {L : List Ar} (h : w.ownsRow B 78 4 (.slice a L.length c) L.length (arR.flat L)) : RowAt w a (arR.flat L) := by
  obtain ⟨a', c', he, hr⟩ := holdsR_of_owns (R := arR) h
  simp only [Value.slice.injEq] at he
  obtain ⟨rfl, _, _⟩ := he
  exact hr
theorem sl_row {w : World} {a : Option Addr} {n c : Nat} {xs : List Value} (h : Sl w (.slice a n c) xs) : RowAt w a xs := by
  obtain ⟨a', c', he, _, _, _, hr⟩ := h
  simp only [Value.slice.injEq] at he
  obtain ⟨rfl, _, _⟩ := he
  exact hr
theorem GoodC.low {g : Gr} {C : CsX} (h : GoodC g C) (back : Bool) : ∀ p ∈ C.l back, p < g.es.length := fun p hp => ((h.ord back).2 p).1 hp
theorem GoodC.row {g : Gr} {C : CsX} (h : GoodC g C) {back : Bool} {n : Int} {Q : List Nat} (hq : RowQ (keyOf (keysA (arcsL C.L g.es back))) (whoOf g.es back) n g.es.length Q) : Q = rowI (whoOf g.es back) (C.l back) g.ns.length n :=
  hq.is (h.ord back) fun p hp => by
    cases back
    · exact (h.ed p hp).fr
    · exact (h.ed p hp).to
section
variable (g : Gr) (C : CsX) (vs : List NdV) (a : Option Addr) (N c : Nat) (b : Option Addr) (m d : Nat) (n : Int) (z : World) (hO : OwnG g vs a N c b m d z) (hok : (checkG g).2 = 0) (hs : g.sm) (hg : GoodC g C)
include hO hok hs hg
end

theorem stepI_mem {g : Gr} {C : CsX} {back : Bool} {n : Int} {s : ByteArray} {p : Nat} (hg : GoodC g C) (h : p ∈ stepI g C back n s) : p < g.es.length ∧ (g.es.getD p Eg.none).l.toList = s.toList := by
  unfold stepI at h
  obtain ⟨h1, h2⟩ := List.mem_filter.1 h
  exact ⟨hg.low back p (rowI_mem h1), of_decide_eq_true h2⟩
/-- A step's arcs are in order: by where they lead, and then by weight. -/
theorem step_sorted {g : Gr} {C : CsX} (hg : GoodC g C) (back : Bool) (n : Int) (s : ByteArray) : Sorted Ar.to Ar.wt ((stepI g C back n s).map (arcOf C.L g.es back)) := by
  unfold Sorted
  rw [List.pairwise_map]
  have h0 : (stepI g C back n s).Pairwise (KeyLt (keyOf (keysA (arcsL C.L g.es back)))) := (rowI_ord (hg.ord back)).sublist List.filter_sublist
  refine h0.imp_of_mem fun {p q} hp hq h => ?_
  obtain ⟨p1, p2⟩ := stepI_mem hg hp
  obtain ⟨q1, q2⟩ := stepI_mem hg hq
  have h2 := (key_lt p1 q1 (hg.ok back p1) (hg.ok back q1)).1 h
  have hl : (arcOf C.L g.es back p).lb = (arcOf C.L g.es back q).lb := by
    show placeL C.L (g.es.getD p Eg.none).l = placeL C.L (g.es.getD q Eg.none).l
    rw [txt_inj (p2.trans q2.symm)]
  unfold LtA at h2
  omega
theorem step_low {g : Gr} {C : CsX} (hg : GoodC g C) (back : Bool) (n : Int) (s : ByteArray) : ∀ x ∈ (stepI g C back n s).map (arcOf C.L g.es back), x.to < g.ns.length := by
  intro x hx
  obtain ⟨p, hp, rfl⟩ := List.mem_map.1 hx
  obtain ⟨h1, -⟩ := stepI_mem hg hp
  obtain ⟨q1, q2, -, -⟩ := hg.ed p h1
  show (if back = true then fromOf g.es p else toOf g.es p) < _
  split <;> assumption
theorem step_len {g : Gr} {C : CsX} (hg : GoodC g C) (back : Bool) (n : Int) (s : ByteArray) : ((stepI g C back n s).map (arcOf C.L g.es back)).length ≤ 1000 := by
  rw [List.length_map]
  have h1 : (stepI g C back n s).length ≤ (rowI (whoOf g.es back) (C.l back) g.ns.length n).length := List.length_filter_le _ _
  have h2 : (rowI (whoOf g.es back) (C.l back) g.ns.length n).length = (rowA g C back n).length := by simp [rowA]
  have h3 := rowA_len g C back n
  have h4 := (hg.ord back).len
  have h5 := hg.es
  omega
end Go.Proofs.YtfkcopokeofjoaaGreat
/-
  A GOOD GRAPH's ROWS TELL OF HOPS WHAT ITS EDGES DO: ends, and a node's hops of a step.
-/
namespace Go.Proofs.YtfkcopokeofjoaaGreat
open Go.ChangeShapes Go.WideShapes Go.ChangeAt Go.RowKit Go.Maps

theorem who_h {g : Gr} (hok : (checkG g).2 = 0) {i : Nat} (hi : i < g.es.length) (back : Bool) : begH g.es ((i : Int), back) = ((whoOf g.es back i : Nat) : Int) ∧ 0 ≤ begH g.es ((i : Int), back) ∧ begH g.es ((i : Int), back) < g.ns.length := by
  obtain ⟨v1, v2, v3, v4, -, -⟩ := good_edges hok _ (getD_memG (d := Eg.none) hi)
  have e0 : isH g.es ((i : Int), back) = true := by rw [isH_nat]; exact decide_eq_true hi
  have e3 : edH g.es ((i : Int), back) = g.es.getD i Eg.none := by simp [edH]
  have e : begH g.es ((i : Int), back) = if back then (g.es.getD i Eg.none).t else (g.es.getD i Eg.none).f := by simp [begH, e0, e3]
  rw [e]
  cases back
  · refine ⟨?_, v1, v2⟩
    show (g.es.getD i Eg.none).f = ((fromOf g.es i : Nat) : Int)
    unfold fromOf
    omega
  · refine ⟨?_, v3, v4⟩
    show (g.es.getD i Eg.none).t = ((toOf g.es i : Nat) : Int)
    unfold toOf
    omega
theorem cends_h (g : Gr) (C : CsX) (B : Nat) (h : Hop) (z : World) (hC : CsrAt g C B z) (hok : (checkG g).2 = 0) (he : g.es.length ≤ 1000) :
    Calls Tryz.prog 29 #[.pointer (some ⟨C.b, 0, none⟩), .int .i64 h.1] z fun e w' => e = .returned (.tuple #[.int .i64 (begH g.es (h.1, false)), .int .i64 (endH g.es (h.1, false)), .bool (isH g.es h)]) ∧ Below z.heap.size z w' :=
  (ends_c g C B h.1 z hC he).mono fun e w' ⟨h1, h2⟩ => by
    refine ⟨?_, h2⟩
    rw [h1]
    obtain ⟨n, b⟩ := h
    simp only
    by_cases hn : 0 ≤ n ∧ n < g.es.length
    · rw [if_pos hn]
      obtain ⟨k, rfl⟩ : ∃ k : Nat, n = k := ⟨n.toNat, by omega⟩
      have hk : k < g.es.length := by omega
      obtain ⟨w1, -, -⟩ := who_h hok hk false
      obtain ⟨w2, -, -⟩ := who_h hok hk true
      have w3 : begH g.es ((k : Int), true) = endH g.es ((k : Int), false) := by simp [begH, endH, isH, edH]
      rw [w3] at w2
      rw [w1, w2, isH_nat, decide_eq_true hk]
      rfl
    · rw [if_neg hn]
      have e0 : isH g.es (n, false) = false := by unfold isH; exact decide_eq_false hn
      obtain ⟨e1, e2⟩ := no_beg e0
      have e4 : isH g.es (n, b) = false := e0
      rw [e1, e2, e4]
theorem mem_stepH {g : Gr} {C : CsX} (hg : GoodC g C) (hok : (checkG g).2 = 0) (back : Bool) (n : Int) (s : ByteArray) (p : Nat) :
    p ∈ stepI g C back n s ↔ p ∈ (List.range g.es.length).filter fun (i : Nat) => decide ((g.es.getD i Eg.none).l.toList = s.toList) && (begH g.es ((i : Int), back) == n) := by
  rw [List.mem_filter, List.mem_range]
  constructor
  · intro h
    obtain ⟨h1, h2⟩ := stepI_mem hg h
    obtain ⟨q1, q2, q3⟩ := who_h hok h1 back
    refine ⟨h1, ?_⟩
    rw [Bool.and_eq_true]
    refine ⟨decide_eq_true h2, ?_⟩
    unfold stepI at h
    have h3 := (List.mem_filter.1 h).1
    unfold rowI at h3
    split at h3
    · rename_i hn
      have h4 := (mem_part.1 h3).2
      rw [q1, h4]
      simp
      omega
    · cases h3
  · rintro ⟨h1, h2⟩
    rw [Bool.and_eq_true] at h2
    obtain ⟨h2, h3⟩ := h2
    obtain ⟨q1, q2, q3⟩ := who_h hok h1 back
    have h3 : begH g.es ((p : Int), back) = n := by simpa using h3
    unfold stepI
    refine List.mem_filter.2 ⟨?_, by simpa using h2⟩
    unfold rowI
    rw [if_pos (by omega)]
    refine mem_part.2 ⟨((hg.ord back).2 p).2 h1, ?_⟩
    omega
/-- Sorted by their edges, a step's hops are the ones that the edges tell, in order. -/
theorem sort_hops {g : Gr} {C : CsX} (hg : GoodC g C) (hok : (checkG g).2 = 0) (back : Bool) (n : Int) (s : ByteArray) (L : List Hop)
    (hp : L.Perm (((stepI g C back n s).map (arcOf C.L g.es back)).map fun x => ((x.ed : Int), back))) (hs : ∀ i j, i < j → j < L.length → ¬ hpcmp (L.getD j (0, false)) (L.getD i (0, false)) < 0) : L = hopsH g.es n s back := by
  have e1 : ((stepI g C back n s).map (arcOf C.L g.es back)).map (fun x => ((x.ed : Int), back)) = (stepI g C back n s).map fun (p : Nat) => ((p : Int), back) := by
    rw [List.map_map]; rfl
  rw [e1] at hp
  have hL : L = (L.map fun h => h.1.toNat).map fun (p : Nat) => ((p : Int), back) := by
    rw [List.map_map]
    symm
    conv => rhs; rw [← List.map_id L]
    refine List.map_congr_left fun h hh => ?_
    obtain ⟨p, _, rfl⟩ := List.mem_map.1 (hp.mem_iff.1 hh)
    rfl
  have hQ : (L.map fun h => h.1.toNat).Perm (stepI g C back n s) := by
    have h1 := hp.map fun h : Hop => h.1.toNat
    rw [List.map_map] at h1
    have e2 : ((fun h : Hop => h.1.toNat) ∘ fun (p : Nat) => ((p : Int), back)) = id := by funext p; rfl
    rw [e2, List.map_id] at h1
    exact h1
  have hnd : (stepI g C back n s).Nodup := (((hg.ord back).1.imp fun h => h.irrefl).sublist (by
    unfold stepI rowI
    refine List.Sublist.trans List.filter_sublist ?_
    split
    · exact List.filter_sublist
    · exact List.nil_sublist _))
  have hnq : (L.map fun h => h.1.toNat).Nodup := hQ.nodup_iff.2 hnd
  have hlen : (L.map fun h => h.1.toNat).length = L.length := List.length_map ..
  have hpw : (L.map fun h => h.1.toNat).Pairwise (KeyLt fun p => p) := by
    rw [List.pairwise_iff_getElem]
    intro i j hi hj hij
    have hne : (L.map fun h => h.1.toNat)[i] ≠ (L.map fun h => h.1.toNat)[j] := List.pairwise_iff_getElem.1 hnq i j hi hj hij
    have h1 := hs i j hij (by omega)
    rw [show L.getD j (0, false) = L[j]'(by omega) by simp [List.getD, show j < L.length by omega], show L.getD i (0, false) = L[i]'(by omega) by simp [List.getD, show i < L.length by omega]] at h1
    unfold hpcmp at h1
    rw [cmpI_neg] at h1
    have hm1 : L[i]'(by omega) ∈ L := List.getElem_mem _
    have hm2 : L[j]'(by omega) ∈ L := List.getElem_mem _
    obtain ⟨p, _, h4⟩ := List.mem_map.1 (hp.mem_iff.1 hm1)
    obtain ⟨q, _, h5⟩ := List.mem_map.1 (hp.mem_iff.1 hm2)
    rw [← h4, ← h5] at h1
    simp only at h1
    rw [List.getElem_map, List.getElem_map, ← h4, ← h5] at hne ⊢
    simp only [Int.toNat_natCast] at hne ⊢
    exact .inl (by show p < q; omega)
  rw [hL]
  unfold hopsH
  congr 1
  refine ordered_ext (K := fun p => p) _ _ hpw (List.Pairwise.sublist List.filter_sublist (List.pairwise_lt_range.imp fun h => .inl h)) fun p => ?_
  rw [hQ.mem_iff]
  exact mem_stepH hg hok back n s p
theorem hfew_b (v : Value) (hs : List Hop) (w : World) (hv : HoldsR hopR w v hs) (hz : hs.length ≤ 8) :
    Calls Tryz.prog 5 #[v] w fun e w' => ∃ a c, e = .returned (.slice a hs.length c) ∧ RowAt w' a (hopR.flat hs) ∧ Below w.heap.size w w' :=
  (hfew_c v hs w hv (by omega)).mono fun e w' ⟨a, n, c, he, hsl, hB⟩ => by
    rw [List.take_of_length_le hz] at hsl
    obtain ⟨a', c', h1, -, -, -, h2⟩ := hsl
    simp only [Value.slice.injEq] at h1
    obtain ⟨rfl, rfl, rfl⟩ := h1
    exact ⟨a, c, he, h2, hB⟩
theorem pcost_g (g : Gr) (hs : List Hop) (us : List NdV) (a : Option Addr) (n c : Nat) (b : Option Addr) (m d : Nat) (ha : Option Addr) (hc : Nat) (z : World) (hU : OwnG g us a n c b m d z) (hv : RowAt z ha (hopR.flat hs)) (hm : g.es.length ≤ 1000) (hn : hs.length ≤ 1000) :
    Calls Tryz.prog 7 #[.agg #[.slice a n c, .slice b m d], .slice ha hs.length hc] z fun e w' => e = .returned (.int .i64 (costH g.es hs)) ∧ Below z.heap.size z w' := by
  obtain ⟨-, rfl⟩ := hU.len
  exact pcost_c g.es hs a n c b d ha hc z hU.edge hv hm hn
/-- A row of hops is no graph's box. -/
theorem hops_set {z : World} {a : Option Addr} {hs : List Hop} {B : Nat} {s1 s2 : Value} {t : TypeId} {a1 a2 : Option Addr} {n1 n2 c1 c2 : Nat} (h : RowAt z a (hopR.flat hs)) (hb : z.heap[B]? = some (.cells #[s1, s2] t)) (e1 : s1 = .slice a1 n1 c1) (e2 : s2 = .slice a2 n2 c2) (j : Nat) (v : Value) : RowAt (z.setCell ⟨B, j, none⟩ v) a (hopR.flat hs) := by
  rcases h with h | ⟨b, off, rfl, hlt, hc⟩
  · exact .inl h
  · match hs, hc with
    | [], _ => exact .inl rfl
    | x :: r, hc =>
      have h0 := hc 0 (.int .i64 x.1) rfl
      have hne : B ≠ b := fun e => by
        subst e
        simp only [World.cell?, hb] at h0
        subst e1; subst e2
        match off, h0 with
        | 0, h0 => simp at h0
        | 1, h0 => simp at h0
        | k + 2, h0 => simp at h0
      refine .inr ⟨b, off, rfl, ?_, fun i u hu => ?_⟩
      · obtain ⟨o, ho⟩ : ∃ o, z.heap[b]? = some o := ⟨_, Array.getElem?_eq_getElem hlt⟩
        exact (Array.getElem?_eq_some_iff.1 (set_oth ho hne j v)).1
      · obtain ⟨o, ho⟩ : ∃ o, z.heap[b]? = some o := ⟨_, Array.getElem?_eq_getElem hlt⟩
        have h2 := set_oth ho hne j v
        have h3 := hc i u hu
        simp only [World.cell?, ho] at h3
        simp only [World.cell?, h2]
        exact h3
end Go.Proofs.YtfkcopokeofjoaaGreat
/-
  WHETHER TWO LISTS OF NUMBERS ARE THE SAME, by its contract.
-/
namespace Go.Proofs.YtfkcopokeofjoaaGreat
open Go.ChangeShapes Go.WideShapes Go.ChangeAt Go.RowKit

theorem same_ends {xs ys : List Int} (k : Nat) (hl : xs.length = ys.length) (ht : xs.take k = ys.take k) (hk : xs.length ≤ k) : decide (xs = ys) = true := by
  rw [List.take_of_length_le hk, List.take_of_length_le (by omega)] at ht
  exact decide_eq_true ht
theorem same_parts {xs ys : List Int} (k : Nat) (h : xs.getD k 0 ≠ ys.getD k 0) : decide (xs = ys) = false := by
  refine decide_eq_false fun e => h (by rw [e])

set_option maxHeartbeats 800000 in
set_option maxRecDepth 1000000 in
theorem same_c (va vb : Value) (xs ys : List Int) (w : World) (hva : Holds w va (xs.map (Value.int .i64))) (hvb : Holds w vb (ys.map (Value.int .i64))) (hx : xs.length ≤ 17592186044416) (hy : ys.length ≤ 17592186044416) :
    Calls Tryz.prog 13 #[va, vb] w fun e w' => e = .returned (.bool (decide (xs = ys))) ∧ Below w.heap.size w w' := by
  obtain ⟨a, cap, rfl, hra⟩ := hva
  obtain ⟨b, cap', rfl, hrb⟩ := hvb
  rw [List.length_map, List.length_map]
  by_cases hl : xs.length = ys.length
  · go_enter Tryz.func13, Tryz.ntmps13
    go_wp2
    go_loopw [5] (fun i wr => ∃ k : Nat, k ≤ xs.length ∧ i = .int .i64 k ∧ xs.take k = ys.take k ∧ Below w.heap.size w wr)
      (fun i _ => xs.length - (intOf i).toNat)
    case atStart => exact ⟨0, Nat.zero_le _, rfl, rfl, Below.refl _ _⟩
    case round =>
      obtain ⟨k, hk, rfl, ht, hnx⟩ := hrel
      by_cases hlt : k < xs.length
      · rcases hra with h0 | ⟨b1, o1, rfl, hb1, hc1⟩
        · simp only [List.map_eq_nil_iff] at h0; subst h0; simp at hlt
        rcases hrb with h0 | ⟨b2, o2, rfl, hb2, hc2⟩
        · simp only [List.map_eq_nil_iff] at h0; subst h0; simp at hl; rw [hl] at hlt; simp at hlt
        have hx1 : wr.cell? ⟨b1, o1 + k, none⟩ = some (.int .i64 (xs.getD k 0)) := (hnx.cell (by exact hb1)).trans (hc1 k _ (by simp [hlt]))
        have hx2 : wr.cell? ⟨b2, o2 + k, none⟩ = some (.int .i64 (ys.getD k 0)) := (hnx.cell (by exact hb2)).trans (hc2 k _ (by simp [show k < ys.length by omega]))
        have hlt2 : k < ys.length := by omega
        have hts : xs.getD k 0 = ys.getD k 0 → xs.take (k + 1) = ys.take (k + 1) := fun e => by
          rw [List.take_add_one, List.take_add_one, ht, List.getElem?_eq_getElem hlt, List.getElem?_eq_getElem hlt2]
          simp [List.getD, hlt, hlt2] at e
          simp [e]
        have hne := same_parts (xs := xs) (ys := ys) k
        clear hc1 hc2
        generalize xs.getD k 0 = x at *
        generalize ys.getD k 0 = y at *
        go_wp2
        go_region
        all_goals (try go_wp2)
        · have h : (x != y) = true := by assumption
          go_ret
          exact ⟨ret_bool (hne (by simpa using h)).symm, hnx.drew⟩
        · have h : (x != y) = false := by assumption
          go_roundw
          case rel => exact ⟨k + 1, by omega, by go_num, hts (by simpa using h), hnx.drew⟩
          case measure => simp [intOf]; omega
      · go_wp2
        go_ret
        exact ⟨ret_bool (same_ends k hl ht (by omega)).symm, hnx⟩
  · have e : decide (xs = ys) = false := decide_eq_false fun e => hl (by rw [e])
    have hl' : ((xs.length : Int) == (ys.length : Int)) = false := by simp; omega
    go_enter Tryz.func13, Tryz.ntmps13
    go_wp2
    go_ret
    exact ⟨ret_bool e.symm, Below.refl _ _⟩
end Go.Proofs.YtfkcopokeofjoaaGreat
/-
  THE PROGRAM's ORDER OF KEYS, as a run takes it by its contract.
-/
namespace Go.Proofs.YtfkcopokeofjoaaGreat
open Go.ChangeShapes Go.WideShapes Go.ChangeAt Go.RowKit

noncomputable def keysK : List GoX.AV → (List Nat → Bool) → Bool
  | [], k => k []
  | .int .u64 (.ofNat x) :: l, k => cond (Nat.blt x 18446744073709551616) (GoX.forceN x fun x => keysK l fun ks => k (x :: ks)) false
  | _, _ => false
theorem keysK_ok : ∀ {cs : List GoX.AV} {k : List Nat → Bool}, keysK cs k = true → ∃ ks, cs = ks.map (fun (x : Nat) => GoX.AV.int .u64 (x : Int)) ∧ (∀ x ∈ ks, x < 18446744073709551616) ∧ k ks = true
  | [], k, h => ⟨[], rfl, by simp, h⟩
  | .int .u64 (.ofNat x) :: l, k, h => by
    obtain ⟨h1, h2⟩ := GoX.cond_true_of (show cond (Nat.blt x 18446744073709551616) (GoX.forceN x fun x => keysK l fun ks => k (x :: ks)) false = true from h)
    rw [GoX.forceN_eq] at h2
    obtain ⟨ks, rfl, h3, h4⟩ := keysK_ok h2
    refine ⟨x :: ks, rfl, fun y hy => ?_, h4⟩
    rcases List.mem_cons.1 hy with rfl | hy
    · exact GoX.blt_lt h1
    · exact h3 y hy
def insP (x : Nat × Nat) : List (Nat × Nat) → List (Nat × Nat)
  | [] => [x]
  | y :: l => cond (Nat.ble y.1 x.1) (y :: insP x l) (x :: y :: l)
def sortP : Nat → List Nat → List (Nat × Nat) → List (Nat × Nat)
  | _, [], acc => acc
  | i, k :: ks, acc => sortP (i + 1) ks (insP (k, i) acc)
def ltB (K : Nat → Nat) (p q : Nat) : Bool := Nat.blt (K p) (K q) || (Nat.beq (K p) (K q) && Nat.blt p q)
def pwB (K : Nat → Nat) : List Nat → Bool
  | [] => true
  | p :: l => l.all (ltB K p) && pwB K l
def chk (K : Nat → Nat) (n : Nat) (ps : List Nat) : Bool := pwB K ps && (ps.all (fun p => Nat.blt p n) && (List.range n).all (fun p => ps.any (Nat.beq p)))
theorem pwB_ok {K : Nat → Nat} : ∀ {l : List Nat}, pwB K l = true → l.Pairwise (KeyLt K)
  | [], _ => .nil
  | p :: l, h => by
    simp only [pwB, Bool.and_eq_true, List.all_eq_true] at h
    refine .cons (fun q hq => ?_) (pwB_ok h.2)
    have := h.1 q hq
    simp only [ltB, Bool.or_eq_true, Bool.and_eq_true] at this
    rcases this with h1 | ⟨h1, h2⟩
    · exact .inl (GoX.blt_lt h1)
    · exact .inr ⟨GoX.beq_eq' h1, GoX.blt_lt h2⟩
theorem chk_ok {K : Nat → Nat} {n : Nat} {ps : List Nat} (h : chk K n ps = true) : Ordered K n ps := by
  simp only [chk, Bool.and_eq_true, List.all_eq_true, List.any_eq_true] at h
  obtain ⟨h1, h2, h3⟩ := h
  refine ⟨pwB_ok h1, fun p => ⟨fun hp => GoX.blt_lt (h2 p hp), fun hp => ?_⟩⟩
  obtain ⟨q, hq, he⟩ := h3 p (List.mem_range.2 hp)
  rw [GoX.beq_eq' he]; exact hq
noncomputable def outK : List Nat → (List GoX.AV → Bool) → Bool
  | [], k => k []
  | p :: l, k => GoX.forceN p fun p => outK l fun o => k (.int .i64 (.ofNat p) :: o)
theorem outK_eq : ∀ (l : List Nat) (k : List GoX.AV → Bool), outK l k = k (l.map fun p => GoX.AV.int .i64 (.ofNat p))
  | [], _ => rfl
  | p :: l, k => by
    show GoX.forceN p (fun p => outK l fun o => k (.int .i64 (.ofNat p) :: o)) = _
    rw [GoX.forceN_eq, outK_eq l]; rfl
noncomputable def ordK (cs : List GoX.AV) (k : List GoX.AV → Bool) : Bool := keysK cs fun ks => cond (Nat.blt 0 ks.length && (Nat.ble ks.length 1000 && chk (fun p => ks.getD p 0) ks.length ((sortP 0 ks []).map (·.2)))) (outK ((sortP 0 ks []).map (·.2)) k) false
theorem concs_u64 (φ : GoX.Phi) : ∀ ks : List Nat, GoX.concs φ (ks.map fun (x : Nat) => GoX.AV.int .u64 (x : Int)) = some (ks.map fun (x : Nat) => Value.int .u64 (x : Int))
  | [] => rfl
  | _ :: ks => GoX.concs_cons_mk rfl (concs_u64 φ ks)
theorem concs_i64 (φ : GoX.Phi) : ∀ ks : List Nat, GoX.concs φ (ks.map fun (x : Nat) => GoX.AV.int .i64 (.ofNat x)) = some (natsV ks)
  | [] => rfl
  | _ :: ks => GoX.concs_cons_mk rfl (concs_i64 φ ks)
theorem ord_orc {K : GoX.Tab} (hK : K.P = Tryz.prog) : GoX.Orc K 39 3 ordK := by
  refine ⟨⟨fun xs w => by rw [hK]; exact enters_of Tryz.func39 (by kernel_rfl) rfl xs w⟩, fun cs k h => ?_⟩
  obtain ⟨ks, rfl, hlt, h⟩ := keysK_ok h
  obtain ⟨hc, h⟩ := GoX.cond_true_of h
  simp only [Bool.and_eq_true] at hc
  obtain ⟨h0, h1, h2⟩ := hc
  have h0 := GoX.blt_lt h0
  have h1 := GoX.ble_le h1
  have h2 := chk_ok h2
  rw [outK_eq] at h
  generalize (sortP 0 ks []).map (·.2) = ps at *
  refine ⟨_, h, fun φ vs b off cap w hvs hcell hb => ⟨_, concs_i64 φ ps, ?_⟩⟩
  rw [concs_u64] at hvs
  obtain rfl := Option.some.inj hvs
  rw [hK]
  have e : (ks.map fun (x : Nat) => Value.int .u64 (x : Int)) = (ks.map Int.ofNat).map (Value.int .u64) := by simp
  have hH : Holds w (.slice (some ⟨b, off, none⟩) (ks.map fun (x : Nat) => Value.int .u64 (x : Int)).length cap) ((ks.map Int.ofNat).map (Value.int .u64)) := by
    rw [← e]
    exact ⟨_, cap, rfl, .inr ⟨b, off, rfl, hb, hcell⟩⟩
  refine (order_c _ (ks.map Int.ofNat) w hH (by simpa using h1) (fun z hz => ?_)).mono ?_
  · obtain ⟨x, hx, rfl⟩ := List.mem_map.1 hz
    have := hlt x hx
    simp [Lit.wf, IntKind.min, IntKind.max, IntKind.signed, IntKind.bits]
    omega
  · rintro e' w' ⟨v', l, rfl, hord, hown, hB⟩
    have hll : (ks.map Int.ofNat).length = ks.length := by simp
    rw [hll] at hord hown
    have hkey : Ordered (fun p => ks.getD p 0) ks.length l := ordered_congr hord fun p hp => by
      simp [keyOf, List.getD, hp]
    obtain rfl := hkey.unique h2
    have hlen := h2.len
    obtain ⟨hl, hr⟩ := hown
    rcases hr with ⟨_, hn⟩ | ⟨g, cp, cur, rfl, hg, hcur, hle, hmx, hsz, htk⟩
    · omega
    · refine ⟨g, cp, cur, by simp [hlen], hg, hcur, by simp [hlen]; exact hle, by omega, ?_, hB⟩
      simp only [List.length_map, hlen]
      rw [Nat.mul_one] at htk
      exact htk
noncomputable def orcT (f : FuncId) : Option GoX.CF := cond (Nat.beq f 39) (some (GoX.orcF 3 ordK)) none
theorem orcT_good {K : GoX.Tab} (hK : K.P = Tryz.prog) : ∀ f c, orcT f = some c → c.Good K true f := fun f c h => by
  unfold orcT at h
  cases hf : Nat.beq f 39 with
  | false => rw [hf] at h; cases h
  | true =>
    rw [hf] at h
    obtain rfl := GoX.beq_eq' hf
    cases h
    exact GoX.orc_good (ord_orc hK)
end Go.Proofs.YtfkcopokeofjoaaGreat
/-
  THE LAW ProductWalks, with lives() as a premise.
-/
namespace Go.Proofs.YtfkcopokeofjoaaGreat
open Go.ChangeShapes Go.WideShapes Go.ChangeAt Go.RowKit Go.Maps

set_option maxHeartbeats 32000000 in
set_option maxRecDepth 100000 in
theorem lawPW_c (G : Gr) (nv ev : Value) (fr : Int) (hv : Value) (ps : List Hop) (w : World) (hG : HoldsG w nv ev G) (hw : G.wf) (hH : HoldsR hopR w hv ps) (hpl : ps.length ≤ maxLen) (hlv : ∀ x, GoX.Calm w x → Calls Tryz.prog 10 #[] x fun e w' => e = .returned (.bool true) ∧ GoX.Calm x w') :
    Calls Tryz.prog 3 #[.agg #[nv, ev], .int .i64 fr, hv] w fun e w' => e = .returned (.bool true) ∧ GoX.Calm w w' := by
  obtain ⟨w1', w2', w3', w4'⟩ := hw
  unfold maxLen at w1' w3' hpl
  have hC0 : Hid (Below w.heap.size w (w.alloc (.cells #[nv, ev] 25))) := (Below.refl _ _).alloc (Nat.le_refl _) _
  have hf0 := gfew_c G nv ev _ (hG.below hC0.out) (by omega) (by omega) (fun x hx => by have := (w2' x hx).1; unfold maxLen at this; omega)
  have hX0 := hidden (heap_alloc_new w (.cells #[nv, ev] 25))
  have hfh : Hid (∀ z, Below w.heap.size w z → Calls Tryz.prog 5 #[hv] z fun e w' => ∃ a n c, e = .returned (.slice a n c) ∧ SlR hopR w' (.slice a n c) (ps.take 8) ∧ Below z.heap.size z w') := hidden fun z hz => hfew_c hv ps z (hH.below hz) (by omega)
  obtain ⟨na, nc, rfl⟩ := hG.1.slice
  obtain ⟨ea, ec, rfl, -⟩ := id hG.2
  have hff := hidden (Gr.few_few G)
  have hsm := hidden (Gr.few_sm G)
  generalize G.few = g at *
  generalize G.ns.length = NL at *
  generalize G.es.length = EL at *
  obtain ⟨hs, hhs⟩ : ∃ hs, Hid (hs = ps.take 8) := ⟨_, hidden rfl⟩
  rw [← hhs.out] at hfh
  clear hG w1' w2' w3' w4' hH hpl
  obtain ⟨⟨b0, b1⟩, f0, f1⟩ := box2f hX0.out
  go_enter Tryz.func3, Tryz.ntmps3
  go_wp2_with fail
  refine hf0.mono ?_
  rintro e w1 ⟨vs, a, n, c, b, m, d, rfl, hN, hE, hB1⟩
  have hO1 : OwnG g vs a n c b m d w1 := ⟨hN, hE⟩
  have hX1 := hidden (box_below hX0.out hB1)
  have hC1 : Hid (Below w.heap.size w w1) := hidden (hC0.out.trans (hB1.mono hC0.out.size))
  replace hO1 := hidden hO1
  have hfh1 := hfh.out w1 hC1.out
  clear b0 b1 f0 f1 hf0 hX0 hC0 hN hE hB1 hfh
  go_wp2_with fail
  refine hfh1.mono ?_
  rintro e z9 ⟨ha, hq, hc, rfl, hsl, hD⟩
  obtain ⟨rfl, hrr⟩ : hq = hs.length ∧ RowAt z9 ha (hopR.flat hs) := by
    obtain ⟨a', c', h1, -, -, -, h2⟩ := hsl
    simp only [Value.slice.injEq] at h1
    obtain ⟨rfl, rfl, rfl⟩ := h1
    exact ⟨rfl, h2⟩
  have hX9 := box_below hX1.out hD
  have hO9 := hO1.out.below hD
  have hO2 := hidden ((hO9.set hX9 0 (.slice a n c)).set (set_heap hX9 0 (.slice a n c)) 1 (.slice b m d))
  have hX2 := hidden (set_heap (set_heap hX9 0 (.slice a n c)) 1 (.slice b m d))
  have hC2 := hidden (((hC1.out.trans (hD.mono hC1.out.size)).setCell (p := ⟨w.heap.size, 0, none⟩) (Nat.le_refl _) (.slice a n c)).setCell (p := ⟨w.heap.size, 1, none⟩) (Nat.le_refl _) (.slice b m d))
  have hH2 := hidden (hops_set (hops_set hrr hX9 rfl rfl 0 (.slice a n c)) (set_heap hX9 0 (.slice a n c)) rfl rfl 1 (.slice b m d))
  obtain ⟨⟨b0, b1⟩, f0, f1⟩ := box2f hX9
  clear hfh1 hsl hD hO1 hX1 hC1 hX9 hO9 hrr
  generalize hwy : (z9.setCell ⟨w.heap.size, 0, none⟩ (.slice a n c)).setCell ⟨w.heap.size, 1, none⟩ (.slice b m d) = y at *
  replace hwy := hidden hwy
  have hX2' : Hid (y.heap[w.heap.size]? = some (.cells #[.slice a n c, .slice b m d] 25)) := hX2.out
  replace hX2 := hX2'
  clear hX2'
  have hl8 : hs.length ≤ 8 := by rw [hhs.out]; rw [List.length_take]; omega
  clear hhs
  obtain ⟨hgn, hgm⟩ := hO2.out.len
  have hn0 : n ≤ 1000 := by rw [hgn]; exact hsm.out.1
  have hm1 : g.es.length ≤ 1000 := hsm.out.2.2.1
  have hn1 : hs.length ≤ 1000 := by omega
  replace hgn := hidden hgn
  replace hgm := hidden hgm
  have hfewG : Hid (∀ z, Below y.heap.size y z → Calls Tryz.prog 4 #[.agg #[.slice a n c, .slice b m d]] z fun e w' => ∃ (us : List NdV) (a' : Option Addr) (n' c' : Nat) (b' : Option Addr) (m' d' : Nat), e = .returned (.agg #[.slice a' n' c', .slice b' m' d']) ∧ OwnG g us a' n' c' b' m' d' w' ∧ Below z.heap.size z w') := hidden fun z h => few_b g vs a n c b m d z (hO2.out.below h) hff.out hsm.out
  have hHo : Hid (∀ z, Below y.heap.size y z → RowAt z ha (hopR.flat hs)) := hidden fun z h => hH2.out.below h
  have hfewH : Hid (∀ z, Below y.heap.size y z → Calls Tryz.prog 5 #[.slice ha hs.length hc] z fun e w' => ∃ a c, e = .returned (.slice a hs.length c) ∧ RowAt w' a (hopR.flat hs) ∧ Below z.heap.size z w') := hidden fun z h => hfew_b _ hs z ⟨ha, hc, rfl, hHo.out z h⟩ hl8
  have hrc : Hid (∀ z, Below y.heap.size y z → Calls Tryz.prog 8 #[.agg #[.slice a n c, .slice b m d], .slice ha hs.length hc] z fun e w' => e = .returned (.int .i64 (costH g.es hs)) ∧ Below z.heap.size z w') := hidden fun z h => by
    rw [hgm.out]
    exact rcost_c g.es hs a n c b d ha hc z (hO2.out.below h).edge (hHo.out z h) hm1 hn1
  have hgood : Hid (∀ z, Below y.heap.size y z → Calls Tryz.prog 9 #[.agg #[.slice a n c, .slice b m d]] z fun e w' => e = .returned (.bool ((checkG g).2 == 0)) ∧ Below z.heap.size z w') := hidden fun z h => rggood_c g vs a n c b m d z (hO2.out.below h) hsm.out
  have hXY : Hid (∀ z, Below y.heap.size y z → z.heap[w.heap.size]? = some (.cells #[.slice a n c, .slice b m d] 25)) := hidden fun z h => box_below hX2.out h
  have hfew := hfewG.out y (Below.refl _ _)
  clear hX2 hH2
  go_wp2_with fail
  rw [hwy.out]
  clear b0 b1 f0 f1
  obtain ⟨⟨b0, b1⟩, -⟩ := box2f (hXY.out y (Below.refl _ _))
  go_wp2_with fail
  refine hfew.mono ?_
  rintro e w2 ⟨us, a2, n2, c2, d2, m2, e2, rfl, hU, hD⟩
  have k2 : Hid (Below y.heap.size y w2) := hD
  clear hfew hD b0 b1
  by_cases hok : (checkG g).2 = 0
  · have h2 := csrNew_c g us a2 n2 c2 d2 m2 e2 w2 hU hsm.out hok
    clear hU
    go_wp2_with fail
    refine h2.mono ?_
    rintro e w3 ⟨C, rfl, hCs, hD⟩
    have k3 : Hid (Below y.heap.size y w3) := k2.out.trans (hD.mono k2.out.size)
    have hgC : Hid (GoodC g C) := hCs.good hok hsm.out
    replace hCs := hidden hCs
    clear hD k2 h2
    have hup : ∀ z, Below w3.heap.size w3 z → Below y.heap.size y z := fun z h => k3.out.trans (h.mono k3.out.size)
    replace hXY := hidden fun z (h : Below w3.heap.size w3 z) => hXY.out z (hup z h)
    replace hfewG := hidden fun z (h : Below w3.heap.size w3 z) => hfewG.out z (hup z h)
    replace hfewH := hidden fun z (h : Below w3.heap.size w3 z) => hfewH.out z (hup z h)
    replace hHo := hidden fun z (h : Below w3.heap.size w3 z) => hHo.out z (hup z h)
    replace hrc := hidden fun z (h : Below w3.heap.size w3 z) => hrc.out z (hup z h)
    replace hgood := hidden fun z (h : Below w3.heap.size w3 z) => hgood.out z (hup z h)
    replace hO2 := hidden fun z (h : Below w3.heap.size w3 z) => hO2.out.below (hup z h)
    have hcal : Hid (∀ z, Below w3.heap.size w3 z → GoX.Calm w z) := hidden fun z h => .of_below (hC2.out.trans ((hup z h).mono hC2.out.size))
    clear hup hC2 k3
    have hcz : Hid (∀ z, Below w3.heap.size w3 z → z.cell? ⟨w.heap.size, 0, none⟩ = some (.slice a n c) ∧ z.cell? ⟨w.heap.size, 1, none⟩ = some (.slice b m d)) := hidden fun z h => (box2f (hXY.out z h)).1
    go_wp2_with fail
    have kk : Hid (Below w3.heap.size w3 w3.drew) := hidden (Below.refl _ _).drew
    have hS := hcz.out _ kk.out
    have hre : Hid (∀ z (p : Hop), Below w3.heap.size w3 z → Calls Tryz.prog 15 #[.agg #[.slice a n c, .slice b m d], .agg #[.int .i64 p.1, .bool p.2]] z fun e w' => e = .returned (.tuple #[.int .i64 (begH g.es p), .int .i64 (endH g.es p), .bool (isH g.es p)]) ∧ Below z.heap.size z w') := hidden fun z p h => by
      rw [hgm.out]
      exact rends_c g.es a n c b d p z (hO2.out z h).edge hm1
    have hrw : Hid (∀ z, Below w3.heap.size w3 z → Calls Tryz.prog 12 #[.agg #[.slice a n c, .slice b m d], .int .i64 fr, .slice ha hs.length hc] z fun e w' => WalkA g.es n fr hs z e w') := hidden fun z h => by
      rw [hgm.out]
      exact rwalk_c g.es hs a n c b d fr ha hc z hn0 (hO2.out z h).edge (hHo.out z h) hm1 hn1
    have hrh : Hid (∀ z (q : Int) (pb : Bool), Below w3.heap.size w3 z → Calls Tryz.prog 18 #[.agg #[.slice a n c, .slice b m d], .int .i64 q, .agg #[.string ⟨#[97]⟩, .bool pb]] z fun e w' => ∃ v, e = .returned v ∧ HoldsR hopR w' v (hopsH g.es q ⟨#[97]⟩ pb) ∧ Below z.heap.size z w') := hidden fun z q pb h => by
      rw [hgm.out]
      exact rhops_c g.es a n c b d q ⟨#[97]⟩ pb z (hO2.out z h).edge hm1
    have hpe : Hid (∀ z (p : Hop), Below w3.heap.size w3 z → Calls Tryz.prog 14 #[.pointer (some ⟨C.b, 0, none⟩), .agg #[.int .i64 p.1, .bool p.2]] z fun e w' => e = .returned (.tuple #[.int .i64 (begH g.es p), .int .i64 (endH g.es p), .bool (isH g.es p)]) ∧ Below z.heap.size z w') := hidden fun z p h =>
      pends_p g.es _ p z fun x hx => cends_h g C _ p x (hCs.out.step (h.trans (hx.mono h.size))) hok hm1
    have hpw : Hid (∀ z (ha : Option Addr) (hc : Nat), Below w3.heap.size w3 z → RowAt z ha (hopR.flat hs) → Calls Tryz.prog 11 #[.pointer (some ⟨C.b, 0, none⟩), .int .i64 fr, .slice ha hs.length hc] z fun e w' => WalkA g.es n fr hs z e w') := hidden fun z ha hc h hr =>
      pwalk_p g.es hs n _ fr ha hc z hn0 hr hn1 (fun x hx => hgn.out ▸ nodes_c g C _ x (hCs.out.step (h.trans (hx.mono h.size)))) (fun x p hx => hpe.out x p (h.trans (hx.mono h.size)))
    have hph : Hid (∀ z (q : Int) (pb : Bool), Below w3.heap.size w3 z → Calls Tryz.prog 17 #[.pointer (some ⟨C.b, 0, none⟩), .int .i64 q, .agg #[.string ⟨#[97]⟩, .bool pb]] z fun e w' => ∃ v, e = .returned v ∧ HoldsR hopR w' v (hopsH g.es q ⟨#[97]⟩ pb) ∧ Below z.heap.size z w') := hidden fun z q pb h =>
      phops_p ((stepI g C pb q ⟨#[97]⟩).map (arcOf C.L g.es pb)) _ _ q ⟨#[97]⟩ pb z (step_len hgC.out pb q _) (fun x hx => (step_c g C _ q ⟨#[97]⟩ pb x (hCs.out.step (h.trans (hx.mono h.size))) hok hgC.out).mono fun _ _ ⟨a, c, he, ho, hB⟩ => ⟨a, c, by rw [List.length_map]; exact he, ho, hB⟩) (fun L hp hs => sort_hops hgC.out hok pb q _ L hp hs)
    have hhl0 := hidden fun q pb => hopsTo_len g.es q ⟨#[97]⟩ pb g.es.length
    have hlp : ((if walkN g.es n fr hs = true then pathH g.es fr hs else [])).length ≤ 1000 := by
      split
      · rw [pathH_len]; omega
      · exact Nat.zero_le _
    simp only [WalkA] at hpw hrw
    generalize (if walkN g.es n fr hs = true then lastH g.es fr hs else 0) = LA at *
    generalize (if walkN g.es n fr hs = true then pathH g.es fr hs else []) = LP at *
    generalize walkN g.es n fr hs = WN at *
    rw [hok] at hgood
    clear hCs hgC hO2 hgn hgm hok hsm hff
    go_region_held3 (fun z => z.cell? ⟨w.heap.size, 0, none⟩ = some (.slice a n c) ∧ z.cell? ⟨w.heap.size, 1, none⟩ = some (.slice b m d)) (first | exact hS | go_keep) (first
      | (go_at_call 4; refine (hfewG.out _ kk.out).mono ?_; rintro e y9 ⟨us9, a9, n9, c9, b9, m9, d9, rfl, hU9, hBz⟩
         have kk := hidden (kk.out.trans (hBz.mono kk.out.size))
         have hS := hcz.out y9 kk.out
         have oA := hidden hU9)
      | (go_at_call 5; refine (hfewH.out _ kk.out).mono ?_; rintro e y9 ⟨a8, c8, rfl, hr8, hBz⟩
         have kk := hidden (kk.out.trans (hBz.mono kk.out.size))
         have hS := hcz.out y9 kk.out
         have oA := hidden (oA.out.below hBz)
         have oB := hidden hr8)
      | (go_at_call 7; refine (pcost_g g hs _ _ _ _ _ _ _ _ _ _ oA.out oB.out hm1 hn1).mono ?_; rintro e y9 ⟨rfl, hBz⟩
         have kk := hidden (kk.out.trans (hBz.mono kk.out.size))
         have hS := hcz.out y9 kk.out
         skip)
      | (go_at_call 8; refine (hrc.out _ kk.out).mono ?_; rintro e y9 ⟨rfl, hBz⟩
         have kk := hidden (kk.out.trans (hBz.mono kk.out.size))
         have hS := hcz.out y9 kk.out
         skip)
      | fail)
    clear hfewG hrc oA oB
    generalize costH g.es hs = cst at *
    obtain ⟨b0, b1⟩ := id hS
    have h5 := hgood.out _ kk.out
    clear hgood hS
    go_wp2_with fail
    refine h5.mono ?_
    rintro e w5 ⟨rfl, hD⟩
    have k5 : Hid (Below w3.heap.size w3 w5) := hidden (kk.out.trans (hD.mono kk.out.size))
    have h6 := hfewH.out w5 k5.out
    clear hD kk h5 b0 b1 hfewH
    go_wp2_with fail
    refine h6.mono ?_
    rintro e w6 ⟨a6, c6, rfl, hr6, hD⟩
    have k6 : Hid (Below w3.heap.size w3 w6) := hidden (k5.out.trans (hD.mono k5.out.size))
    have h7 := hpw.out w6 a6 c6 k6.out hr6
    clear hD k5 h6 hpw hr6
    go_wp2_with fail
    refine h7.mono ?_
    rintro e w7 ⟨v7, rfl, hv7, hD⟩
    have k7 : Hid (Below w3.heap.size w3 w7) := hidden (k6.out.trans (hD.mono k6.out.size))
    have h8 := hrw.out w7 k7.out
    replace hv7 := hidden hv7
    obtain ⟨b0, b1⟩ := hcz.out w7 k7.out
    clear hD k6 h7 hrw
    go_wp2_with fail
    refine h8.mono ?_
    rintro e w8 ⟨v8, rfl, hv8, hD⟩
    have k8 : Hid (Below w3.heap.size w3 w8) := hidden (k7.out.trans (hD.mono k7.out.size))
    replace hv7 := hidden (hv7.out.below hD)
    have h9 := same_c v7 v8 LP LP w8 hv7.out hv8 (by omega) (by omega)
    rw [decide_eq_true rfl] at h9
    clear hD k7 h8 hv8 hv7 b0 b1 hlp
    go_wp2_with fail
    refine h9.mono ?_
    rintro e w9 ⟨rfl, hD⟩
    have k9 : Hid (Below w3.heap.size w3 w9) := hidden (k8.out.trans (hD.mono k8.out.size))
    clear hD k8 h9
    go_wp2_with fail
    go_loopw [15] (fun i wr => ∃ k : Nat, k ≤ hs.length ∧ i = .int .i64 k ∧ Hid (Below w3.heap.size w3 wr))
      (fun i _ => hs.length - (intOf i).toNat)
    case atStart => exact ⟨0, Nat.zero_le _, rfl, k9⟩
    case round =>
      clear k9
      obtain ⟨k, hk, rfl, hnx⟩ := hrel
      by_cases hlt : k < hs.length
      · have hlt' : (k : Int) < (hs.length : Int) := by omega
        obtain ⟨hb, ho, rfl, hhb, f0, f1⟩ := hop_at (hHo.out wr hnx.out) hlt
        have h1 := hpe.out wr (hs.getD k (0, false)) hnx.out
        replace hre := hidden fun z => hre.out z (hs.getD k (0, false))
        generalize hs.getD k (0, false) = p at *
        obtain ⟨pe, pb⟩ := p
        have hch : Hid (∀ z, Below wr.heap.size wr z → z.cell? ⟨w.heap.size, 0, none⟩ = some (.slice a n c) ∧ z.cell? ⟨w.heap.size, 1, none⟩ = some (.slice b m d) ∧ z.cell? ⟨hb, ho + k * 2, none⟩ = some (.int .i64 pe) ∧ z.cell? ⟨hb, ho + k * 2 + 1, none⟩ = some (.bool pb)) := hidden fun z h => by
          obtain ⟨p1, p2⟩ := hcz.out z (hnx.out.trans (h.mono hnx.out.size))
          exact ⟨p1, p2, (h.cell (p := ⟨hb, ho + k * 2, none⟩) hhb).trans f0, (h.cell (p := ⟨hb, ho + k * 2 + 1, none⟩) hhb).trans f1⟩
        simp only at f0 f1 h1 hre
        generalize begH g.es (pe, pb) = q0 at *
        generalize endH g.es (pe, pb) = q1 at *
        generalize isH g.es (pe, pb) = q2 at *
        have hq0 : (q0 != q0) = false := by simp
        go_wp2_with fail
        refine h1.mono ?_
        rintro e x1 ⟨rfl, hD⟩
        have j1 : Hid (Below wr.heap.size wr x1) := hidden hD
        clear hD h1 f0 f1
        go_wp2_with fail
        have kk : Hid (Below wr.heap.size wr x1.drew) := hidden j1.out.drew
        have hS := hch.out _ kk.out
        replace hre := hidden fun z (h : Below wr.heap.size wr z) => hre.out z (hnx.out.trans (h.mono hnx.out.size))
        go_region_held3 (fun z => z.cell? ⟨w.heap.size, 0, none⟩ = some (.slice a n c) ∧ z.cell? ⟨w.heap.size, 1, none⟩ = some (.slice b m d) ∧ z.cell? ⟨hb, ho + k * 2, none⟩ = some (.int .i64 pe) ∧ z.cell? ⟨hb, ho + k * 2 + 1, none⟩ = some (.bool pb)) (first | exact hS | go_keep) (first
          | (go_at_call 15; refine (hre.out _ kk.out).mono ?_; rintro e y9 ⟨rfl, hBz⟩
             have kk := hidden (kk.out.trans (hBz.mono kk.out.size))
             have hS := hch.out y9 kk.out
             skip)
          | fail)
        obtain ⟨-, -, f0, f1⟩ := hch.out _ kk.out
        clear hS
        have jj := kk
        clear kk
        have hgs := hidden (heap_alloc_new y9 (.cells #[.string ⟨#[97]⟩, .bool pb] 48))
        have jn : Hid (Below wr.heap.size wr (y9.alloc (.cells #[.string ⟨#[97]⟩, .bool pb] 48))) := hidden (jj.out.alloc jj.out.size _)
        have hcg : Hid (∀ z, Below (y9.alloc (.cells #[.string ⟨#[97]⟩, .bool pb] 48)).heap.size (y9.alloc (.cells #[.string ⟨#[97]⟩, .bool pb] 48)) z → z.cell? ⟨w.heap.size, 0, none⟩ = some (.slice a n c) ∧ z.cell? ⟨w.heap.size, 1, none⟩ = some (.slice b m d) ∧ z.cell? ⟨y9.heap.size, 0, none⟩ = some (.string ⟨#[97]⟩) ∧ z.cell? ⟨y9.heap.size, 1, none⟩ = some (.bool pb)) := hidden fun z h => by
          obtain ⟨p1, p2, -, -⟩ := hch.out z (jn.out.trans (h.mono jn.out.size))
          obtain ⟨⟨p3, p4⟩, -⟩ := box2f (box_below hgs.out h)
          exact ⟨p1, p2, p3, p4⟩
        have hjz : Hid (∀ z, Below (y9.alloc (.cells #[.string ⟨#[97]⟩, .bool pb] 48)).heap.size (y9.alloc (.cells #[.string ⟨#[97]⟩, .bool pb] 48)) z → Below w3.heap.size w3 z) := hidden fun z h => hnx.out.trans ((jn.out.trans (h.mono jn.out.size)).mono hnx.out.size)
        have hphz := hidden fun z (h : Below (y9.alloc (.cells #[.string ⟨#[97]⟩, .bool pb] 48)).heap.size (y9.alloc (.cells #[.string ⟨#[97]⟩, .bool pb] 48)) z) => hph.out z q0 pb (hjz.out z h)
        have hrhz := hidden fun z (h : Below (y9.alloc (.cells #[.string ⟨#[97]⟩, .bool pb] 48)).heap.size (y9.alloc (.cells #[.string ⟨#[97]⟩, .bool pb] 48)) z) => hrh.out z q0 pb (hjz.out z h)
        have hhl : Hid ((hopsH g.es q0 ⟨#[97]⟩ pb).length ≤ 2000000) := hidden (by have h4 := hhl0.out q0 pb; show (hopsTo g.es q0 ⟨#[97]⟩ pb g.es.length).length ≤ _; omega)
        have kk0 : Hid (Below (y9.alloc (.cells #[.string ⟨#[97]⟩, .bool pb] 48)).heap.size (y9.alloc (.cells #[.string ⟨#[97]⟩, .bool pb] 48)) (y9.alloc (.cells #[.string ⟨#[97]⟩, .bool pb] 48)).drew) := hidden (Below.refl _ _).drew
        generalize hopsH g.es q0 ⟨#[97]⟩ pb = HH at *
        clear hgs jn hch
        go_wp2_with fail
        generalize hgs : y9.heap.size = gs at *
        generalize y9.alloc (.cells #[.string ⟨#[97]⟩, .bool pb] 48) = x2 at *
        have kk := kk0
        have hS := hcg.out _ kk.out
        go_region_held3 (fun z => z.cell? ⟨w.heap.size, 0, none⟩ = some (.slice a n c) ∧ z.cell? ⟨w.heap.size, 1, none⟩ = some (.slice b m d) ∧ z.cell? ⟨gs, 0, none⟩ = some (.string ⟨#[97]⟩) ∧ z.cell? ⟨gs, 1, none⟩ = some (.bool pb)) (first | exact hS | go_keep) (first
          | (go_at_call 17; refine (hphz.out _ kk.out).mono ?_; rintro e y9 ⟨v9, rfl, hr9, hBz⟩
             have kk := hidden (kk.out.trans (hBz.mono kk.out.size))
             have hS := hcg.out y9 kk.out
             have oA := hidden hr9)
          | (go_at_call 18; refine (hrhz.out _ kk.out).mono ?_; rintro e y9 ⟨v8, rfl, hr8, hBz⟩
             have kk := hidden (kk.out.trans (hBz.mono kk.out.size))
             have hS := hcg.out y9 kk.out
             have oA := hidden (oA.out.below hBz)
             have oB := hidden hr8)
          | (go_at_call 16; refine (hsame_c _ _ _ _ oA.out oB.out hhl.out).mono ?_; rintro e y9 ⟨rfl, hBz⟩
             have kk := hidden (kk.out.trans (hBz.mono kk.out.size))
             have hS := hcg.out y9 kk.out
             skip)
          | fail)
        have hnx2 := hidden (hjz.out _ kk.out)
        clear hS kk hjz hcg hphz hrhz
        go_wp2
        go_roundw
        case rel => exact ⟨k + 1, by omega, by go_num, hnx2⟩
        case measure => simp [intOf]; omega
      · have hlt' : ¬ (k : Int) < (hs.length : Int) := by omega
        have h9 := hlv wr (hcal.out wr hnx.out)
        clear hlv
        go_wp2_with fail
        refine h9.mono ?_
        rintro e x9 ⟨rfl, hD⟩
        have hfin : Hid (GoX.Calm w x9) := hidden ((hcal.out wr hnx.out).trans hD)
        clear hD h9
        go_wp2
        go_ret
        exact ⟨by first | done | rfl | simp, hfin.out⟩
  · have h2 := csrBad_c g us a2 n2 c2 d2 m2 e2 w2 hU hsm.out hok
    clear hU
    have g2 : ((checkG g).2 != 0) = true := by simp [hok]
    have g3 : ((checkG g).2 == 0) = false := by simp [hok]
    rw [g3] at hgood
    replace hok := hidden hok
    go_wp2_with fail
    refine h2.mono ?_
    rintro e w3 ⟨rfl, hD⟩
    have k3 : Hid (Below y.heap.size y w3) := k2.out.trans (hD.mono k2.out.size)
    clear hD k2 h2
    generalize (checkG g).2 = q at *
    have hup : ∀ z, Below w3.heap.size w3 z → Below y.heap.size y z := fun z h => k3.out.trans (h.mono k3.out.size)
    replace hXY := hidden fun z (h : Below w3.heap.size w3 z) => hXY.out z (hup z h)
    replace hfewG := hidden fun z (h : Below w3.heap.size w3 z) => hfewG.out z (hup z h)
    replace hfewH := hidden fun z (h : Below w3.heap.size w3 z) => hfewH.out z (hup z h)
    replace hHo := hidden fun z (h : Below w3.heap.size w3 z) => hHo.out z (hup z h)
    replace hrc := hidden fun z (h : Below w3.heap.size w3 z) => hrc.out z (hup z h)
    replace hgood := hidden fun z (h : Below w3.heap.size w3 z) => hgood.out z (hup z h)
    replace hO2 := hidden fun z (h : Below w3.heap.size w3 z) => hO2.out.below (hup z h)
    have hcal : Hid (∀ z, Below w3.heap.size w3 z → GoX.Calm w z) := hidden fun z h => .of_below (hC2.out.trans ((hup z h).mono hC2.out.size))
    clear hup hC2 k3
    have hcz : Hid (∀ z, Below w3.heap.size w3 z → z.cell? ⟨w.heap.size, 0, none⟩ = some (.slice a n c) ∧ z.cell? ⟨w.heap.size, 1, none⟩ = some (.slice b m d)) := hidden fun z h => (box2f (hXY.out z h)).1
    go_wp2_with fail
    have kk : Hid (Below w3.heap.size w3 w3.drew) := hidden (Below.refl _ _).drew
    have hS := hcz.out _ kk.out
    go_region_held3 (fun z => z.cell? ⟨w.heap.size, 0, none⟩ = some (.slice a n c) ∧ z.cell? ⟨w.heap.size, 1, none⟩ = some (.slice b m d)) (first | exact hS | go_keep) (first
      | (go_at_call 4; refine (hfewG.out _ kk.out).mono ?_; rintro e y9 ⟨us9, a9, n9, c9, b9, m9, d9, rfl, hU9, hBz⟩
         have kk := hidden (kk.out.trans (hBz.mono kk.out.size))
         have hS := hcz.out y9 kk.out
         have oA := hidden hU9)
      | (go_at_call 5; refine (hfewH.out _ kk.out).mono ?_; rintro e y9 ⟨a8, c8, rfl, hr8, hBz⟩
         have kk := hidden (kk.out.trans (hBz.mono kk.out.size))
         have hS := hcz.out y9 kk.out
         have oA := hidden (oA.out.below hBz)
         have oB := hidden hr8)
      | (go_at_call 7; refine (pcost_g g hs _ _ _ _ _ _ _ _ _ _ oA.out oB.out hm1 hn1).mono ?_; rintro e y9 ⟨rfl, hBz⟩
         have kk := hidden (kk.out.trans (hBz.mono kk.out.size))
         have hS := hcz.out y9 kk.out
         skip)
      | (go_at_call 8; refine (hrc.out _ kk.out).mono ?_; rintro e y9 ⟨rfl, hBz⟩
         have kk := hidden (kk.out.trans (hBz.mono kk.out.size))
         have hS := hcz.out y9 kk.out
         skip)
      | fail)
    clear hfewG hrc oA oB
    generalize costH g.es hs = cst at *
    obtain ⟨b0, b1⟩ := id hS
    have h5 := hgood.out _ kk.out
    clear hgood hS
    go_wp2_with fail
    refine h5.mono ?_
    rintro e w5 ⟨rfl, hD⟩
    have k5 : Hid (Below w3.heap.size w3 w5) := hidden (kk.out.trans (hD.mono kk.out.size))
    have h6 := hlv w5 (hcal.out w5 k5.out)
    clear hD kk h5 b0 b1 hlv
    go_wp2_with fail
    refine h6.mono ?_
    rintro e x9 ⟨rfl, hD⟩
    have hfin : Hid (GoX.Calm w x9) := hidden ((hcal.out w5 k5.out).trans hD)
    clear hD h6
    go_wp2
    go_ret
    exact ⟨by first | done | rfl | simp, hfin.out⟩
end Go.Proofs.YtfkcopokeofjoaaGreat
