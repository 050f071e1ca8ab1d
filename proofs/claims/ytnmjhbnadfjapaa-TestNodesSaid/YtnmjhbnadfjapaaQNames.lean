/-
  QUERIES IN MEMORY: what a query's slices hold. No function is named here.
-/
import Derived.Test.YtnmjhbnadfjapaaRFew2
import Derived.Test.YtnmjhbnadfjapaaGFew
import Derived.Test.YtnmjhbnadfjapaaTEach5
import Derived.WalkSmall
import Derived.Deep.RegionHeld3
import Derived.Deep.AppendLies
import Derived.Laws.OwnMore
namespace Go.Proofs.Ytnmjhbnadfjapaa
open Go.ChangeShapes Go.WideShapes Go.ChangeAt Go.RowKit

structure PlV where
  v : ByteArray
  l : ByteArray
  a : Option Addr
  n : Nat
  c : Nat
def PlV.none : PlV := ⟨⟨#[]⟩, ⟨#[]⟩, .none, 0, 0⟩
def placeR : Rec PlV := ⟨fun x => [.string x.v, .string x.l, .slice x.a x.n x.c], 3, by decide, fun _ => rfl, fun x u hu => by simp at hu; rcases hu with rfl | rfl | rfl <;> rfl, PlV.none⟩
structure Pl where
  v : ByteArray
  l : ByteArray
  ts : List Tst
def Pl.none : Pl := ⟨⟨#[]⟩, ⟨#[]⟩, []⟩
structure PthV where
  f : ByteArray
  t : ByteArray
  x : RxV
  v : ByteArray
  h : Int
  sh : Bool
def PthV.none : PthV := ⟨⟨#[]⟩, ⟨#[]⟩, RxV.none, ⟨#[]⟩, 0, false⟩
def pathR : Rec PthV := ⟨fun x => [.string x.f, .string x.t, .int .i64 x.x.k, .string x.x.s, .bool x.x.b, .slice x.x.a x.x.n x.x.c, .string x.v, .int .i64 x.h, .bool x.sh], 9, by decide, fun _ => rfl, fun x u hu => by simp at hu; rcases hu with rfl | rfl | rfl | rfl | rfl | rfl | rfl | rfl | rfl <;> rfl, PthV.none⟩
structure Pth where
  f : ByteArray
  t : ByteArray
  r : Rx
  v : ByteArray
  h : Int
  sh : Bool
def Pth.none : Pth := ⟨⟨#[]⟩, ⟨#[]⟩, Rx.none, ⟨#[]⟩, 0, false⟩
structure Qy where
  ps : List Pl
  es : List Pth
  rs : List ByteArray
  c : Bool
  sk : Int
  li : Int
  ct : Bool
def Tst.few (x : Tst) : Tst := ⟨cutB x.s 32, x.o, x.k, x.n, cutB x.t 120⟩
def Pl.few (x : Pl) : Pl := ⟨cutB x.v 32, cutB x.l 32, (x.ts.take 9).map Tst.few⟩
def Pth.few (x : Pth) : Pth := ⟨cutB x.f 32, cutB x.t 32, x.r.few 3, cutB x.v 32, x.h, x.sh⟩
def Qy.few (q : Qy) : Qy := ⟨(q.ps.take 17).map Pl.few, (q.es.take 17).map Pth.few, (q.rs.take 33).map fun s => cutB s 32, q.c, q.sk, q.li, q.ct⟩
/-- What is read of a query. -/
def HoldsP (w : World) (v : Value) (ps : List Pl) : Prop := ∃ vs, HoldsR placeR w v vs ∧ vs.length = ps.length ∧ ∀ i, i < ps.length → (vs.getD i PlV.none).v = (ps.getD i Pl.none).v ∧ (vs.getD i PlV.none).l = (ps.getD i Pl.none).l ∧ HoldsR testR w (.slice (vs.getD i PlV.none).a (vs.getD i PlV.none).n (vs.getD i PlV.none).c) (ps.getD i Pl.none).ts
def SameP (x : PthV) (y : Pth) : Prop := x.f = y.f ∧ x.t = y.t ∧ x.v = y.v ∧ x.h = y.h ∧ x.sh = y.sh
def HoldsE (w : World) (v : Value) (es : List Pth) : Prop := ∃ us, HoldsR pathR w v us ∧ us.length = es.length ∧ ∀ i, i < es.length → SameP (us.getD i PthV.none) (es.getD i Pth.none) ∧ ∃ D, HeldX (fun _ => True) w D (us.getD i PthV.none).x (es.getD i Pth.none).r
structure HoldsQ (w : World) (pv ev rv : Value) (q : Qy) : Prop where
  ps : HoldsP w pv q.ps
  es : HoldsE w ev q.es
  rs : Holds w rv (tx q.rs)
theorem HoldsP.below {w w' : World} {v : Value} {ps : List Pl} (h : HoldsP w v ps) (hB : Below w.heap.size w w') : HoldsP w' v ps := by
  obtain ⟨vs, h1, h2, h3⟩ := h
  exact ⟨vs, h1.below hB, h2, fun i hi => ⟨(h3 i hi).1, (h3 i hi).2.1, (h3 i hi).2.2.below hB⟩⟩
theorem HoldsE.below {w w' : World} {v : Value} {es : List Pth} (h : HoldsE w v es) (hB : Below w.heap.size w w') : HoldsE w' v es := by
  obtain ⟨us, h1, h2, h3⟩ := h
  exact ⟨us, h1.below hB, h2, fun i hi => ⟨(h3 i hi).1, let ⟨D, h⟩ := (h3 i hi).2; ⟨D, h.below hB⟩⟩⟩
theorem HoldsQ.below {w w' : World} {pv ev rv : Value} {q : Qy} (h : HoldsQ w pv ev rv q) (hB : Below w.heap.size w w') : HoldsQ w' pv ev rv q := ⟨h.ps.below hB, h.es.below hB, h.rs.below hB⟩
theorem HoldsP.slice {w : World} {v : Value} {ps : List Pl} (h : HoldsP w v ps) : ∃ a c, v = .slice a ps.length c := by
  obtain ⟨vs, ⟨a, c, rfl, _⟩, h2, _⟩ := h
  exact ⟨a, c, by rw [h2]⟩
theorem HoldsE.slice {w : World} {v : Value} {es : List Pth} (h : HoldsE w v es) : ∃ a c, v = .slice a es.length c := by
  obtain ⟨vs, ⟨a, c, rfl, _⟩, h2, _⟩ := h
  exact ⟨a, c, by rw [h2]⟩
/-- A place at its place. -/
theorem placeQ_at {w : World} {a : Option Addr} {n c : Nat} {ps : List Pl} (h : HoldsP w (.slice a n c) ps) {k : Nat} (hk : k < ps.length) :
    ∃ b off ta tc, a = some ⟨b, off, none⟩ ∧ b < w.heap.size ∧ w.cell? ⟨b, off + k * 3, none⟩ = some (.string (ps.getD k Pl.none).v) ∧ w.cell? ⟨b, off + k * 3 + 1, none⟩ = some (.string (ps.getD k Pl.none).l) ∧ w.cell? ⟨b, off + k * 3 + 2, none⟩ = some (.slice ta (ps.getD k Pl.none).ts.length tc) ∧ RowAt w ta (testR.flat (ps.getD k Pl.none).ts) := by
  obtain ⟨vs, ⟨a', c', he, hr⟩, h1, h2⟩ := h
  simp only [Value.slice.injEq] at he
  obtain ⟨rfl, _, _⟩ := he
  obtain ⟨b, off, rfl, hb, hc⟩ := rec_at hr (k := k) (by omega)
  obtain ⟨hl, hl2, ta, tc, ht, hrow⟩ := h2 k hk
  have c2 := hc 2 _ rfl
  change w.cell? ⟨b, off + k * 3 + 2, none⟩ = some (.slice (vs.getD k PlV.none).a (vs.getD k PlV.none).n (vs.getD k PlV.none).c) at c2
  rw [ht] at c2
  refine ⟨b, off, ta, tc, rfl, hb, ?_, ?_, c2, hrow⟩
  · rw [← hl]; exact hc 0 _ rfl
  · rw [← hl2]; exact hc 1 _ rfl
theorem path_at {w : World} {a : Option Addr} {n c : Nat} {es : List Pth} (h : HoldsE w (.slice a n c) es) {k : Nat} (hk : k < es.length) :
    ∃ b off D, ∃ x : RxV, a = some ⟨b, off, none⟩ ∧ b < w.heap.size ∧ w.cell? ⟨b, off + k * 9, none⟩ = some (.string (es.getD k Pth.none).f) ∧ w.cell? ⟨b, off + k * 9 + 1, none⟩ = some (.string (es.getD k Pth.none).t) ∧ w.cell? ⟨b, off + k * 9 + 2, none⟩ = some (.int .i64 x.k) ∧ w.cell? ⟨b, off + k * 9 + 3, none⟩ = some (.string x.s) ∧
      w.cell? ⟨b, off + k * 9 + 4, none⟩ = some (.bool x.b) ∧ w.cell? ⟨b, off + k * 9 + 5, none⟩ = some (.slice x.a x.n x.c) ∧ w.cell? ⟨b, off + k * 9 + 6, none⟩ = some (.string (es.getD k Pth.none).v) ∧ w.cell? ⟨b, off + k * 9 + 7, none⟩ = some (.int .i64 (es.getD k Pth.none).h) ∧ w.cell? ⟨b, off + k * 9 + 8, none⟩ = some (.bool (es.getD k Pth.none).sh) ∧ HeldX (fun _ => True) w D x (es.getD k Pth.none).r := by
  obtain ⟨us, ⟨a', c', he, hr⟩, h1, h2⟩ := h
  simp only [Value.slice.injEq] at he
  obtain ⟨rfl, _, _⟩ := he
  obtain ⟨b, off, rfl, hb, hc⟩ := rec_at hr (k := k) (by omega)
  obtain ⟨⟨e1, e2, e3, e4, e5⟩, D, hD⟩ := h2 k hk
  refine ⟨b, off, D, (us.getD k PthV.none).x, rfl, hb, ?_, ?_, hc 2 _ rfl, hc 3 _ rfl, hc 4 _ rfl, hc 5 _ rfl, ?_, ?_, ?_, hD⟩
  · rw [← e1]; exact hc 0 _ rfl
  · rw [← e2]; exact hc 1 _ rfl
  · rw [← e3]; exact hc 6 _ rfl
  · rw [← e4]; exact hc 7 _ rfl
  · rw [← e5]; exact hc 8 _ rfl
theorem testQ_at {w : World} {a : Option Addr} {ps : List Tst} (h : RowAt w a (testR.flat ps)) {k : Nat} (hk : k < ps.length) :
    ∃ b off, a = some ⟨b, off, none⟩ ∧ b < w.heap.size ∧ w.cell? ⟨b, off + k * 5, none⟩ = some (.string (ps.getD k Tst.none).s) ∧ w.cell? ⟨b, off + k * 5 + 1, none⟩ = some (.int .i64 (ps.getD k Tst.none).o) ∧ w.cell? ⟨b, off + k * 5 + 2, none⟩ = some (.int .i64 (ps.getD k Tst.none).k) ∧ w.cell? ⟨b, off + k * 5 + 3, none⟩ = some (.int .i64 (ps.getD k Tst.none).n) ∧ w.cell? ⟨b, off + k * 5 + 4, none⟩ = some (.string (ps.getD k Tst.none).t) := by
  obtain ⟨b, off, h1, h2, h3⟩ := rec_at h hk
  exact ⟨b, off, h1, h2, h3 0 _ rfl, h3 1 _ rfl, h3 2 _ rfl, h3 3 _ rfl, h3 4 _ rfl⟩
theorem txt_at {w : World} {a : Option Addr} {rs : List ByteArray} (h : RowAt w a (tx rs)) {k : Nat} (hk : k < rs.length) :
    ∃ b off, a = some ⟨b, off, none⟩ ∧ b < w.heap.size ∧ w.cell? ⟨b, off + k, none⟩ = some (.string (rs.getD k ⟨#[]⟩)) := by
  rcases h with h0 | ⟨b, off, rfl, hb, hc⟩
  · have := congrArg List.length h0
    rw [tx_len] at this
    simp only [List.length_nil] at this; omega
  · exact ⟨b, off, rfl, hb, hc k _ (tx_at rs ⟨#[]⟩ k hk)⟩
theorem infoTs : (Try.prog.info? 62).map (fun i => (i.zero, i.size, i.bytes)) = some (some (.agg #[.string ⟨#[]⟩, .int .i64 0, .int .i64 0, .int .i64 0, .string ⟨#[]⟩]), 5, 56) := by kernel_rfl
theorem infoPl : (Try.prog.info? 105).map (fun i => (i.zero, i.size, i.bytes)) = some (some (.agg #[.string ⟨#[]⟩, .string ⟨#[]⟩, .slice none 0 0]), 3, 56) := by kernel_rfl
theorem infoPt : (Try.prog.info? 114).map (fun i => (i.zero, i.size, i.bytes)) = some (some (.agg #[.string ⟨#[]⟩, .string ⟨#[]⟩, .int .i64 0, .string ⟨#[]⟩, .bool false, .slice none 0 0, .string ⟨#[]⟩, .int .i64 0, .bool false]), 9, 120) := by kernel_rfl
theorem infoTxt : (Try.prog.info? 9).map (fun i => (i.zero, i.size, i.bytes)) = some (some (.string ⟨#[]⟩), 1, 16) := by kernel_rfl
end Go.Proofs.Ytnmjhbnadfjapaa
/-
  A QUERY THAT IS COPIED: what lies between its parts.
-/
namespace Go.Proofs.Ytnmjhbnadfjapaa
open Go.ChangeShapes Go.WideShapes Go.ChangeAt Go.RowKit

theorem own_le {w : World} {B B' t s n : Nat} {v : Value} {xs : List Value} (h : w.ownsRow B t s v n xs) (hB : B' ≤ B) : w.ownsRow B' t s v n xs := by
  obtain ⟨hl, h⟩ := h
  refine ⟨hl, ?_⟩
  rcases h with h | ⟨g, cap, cur, h1, h2, h3⟩
  · exact .inl h
  · exact .inr ⟨g, cap, cur, h1, Nat.le_trans hB h2, h3⟩
/-- A place's tests, being copied. -/
structure InP (v l : ByteArray) (ts : List Tst) (tu : Value) (y x : World) : Prop where
  below : Below y.heap.size y x
  box : x.heap[y.heap.size]? = some (.cells #[.string v, .string l, tu] 105)
  row : x.ownsRow y.heap.size 62 5 tu ts.length (testR.flat ts)
theorem InP.step {v l : ByteArray} {ts : List Tst} {tu : Value} {y x z : World} (h : InP v l ts tu y x) (hB : Below x.heap.size x z) : InP v l ts tu y z :=
  ⟨h.below.trans (hB.mono h.below.size), box_below h.box hB, owns_keep h.row hB⟩
theorem InP.next {v l : ByteArray} {ts : List Tst} {tu v' : Value} {y x x2 : World} {q : Tst} (h : InP v l ts tu y x) (hown : x2.ownsRow y.heap.size 62 5 v' (ts.length + 1) (testR.flat ts ++ testR.enc q)) (hg : x.grownBy x2 tu.ownBlock) :
    InP v l (ts ++ [q]) v' y (x2.setCell ⟨y.heap.size, 2, none⟩ v') := by
  have hb := box_grown h.box h.row (by decide) hg
  refine ⟨(h.below.grown hg h.below.size (fun j hj => (h.row.lt j hj).1)).setCell (Nat.le_refl _) _, by simpa using set_heap hb 2 v', ?_⟩
  rw [Rec.flat_app, Rec.flat_one, List.length_append]
  exact own_set hown hb (by decide) _ _
/-- The places that are copied. -/
structure PlacesAt (B : Nat) (u : Value) (vs : List PlV) (ps : List Pl) (x : World) : Prop where
  row : x.ownsRow B 105 3 u vs.length (placeR.flat vs)
  len : vs.length = ps.length
  each : ∀ i, i < ps.length → (vs.getD i PlV.none).v = (ps.getD i Pl.none).v ∧ (vs.getD i PlV.none).l = (ps.getD i Pl.none).l ∧ x.ownsRow 0 62 5 (.slice (vs.getD i PlV.none).a (vs.getD i PlV.none).n (vs.getD i PlV.none).c) (ps.getD i Pl.none).ts.length (testR.flat (ps.getD i Pl.none).ts)
theorem PlacesAt.step {B : Nat} {u : Value} {vs : List PlV} {ps : List Pl} {x z : World} (h : PlacesAt B u vs ps x) (hB : Below x.heap.size x z) : PlacesAt B u vs ps z :=
  ⟨owns_keep h.row hB, h.len, fun i hi => ⟨(h.each i hi).1, (h.each i hi).2.1, owns_keep (h.each i hi).2.2 hB⟩⟩
theorem PlacesAt.set {B : Nat} {u : Value} {vs : List PlV} {ps : List Pl} {x : World} {b : Nat} {cs : Array Value} (h : PlacesAt B u vs ps x) (hb : x.heap[b]? = some (.cells cs 74)) (j : Nat) (v : Value) : PlacesAt B u vs ps (x.setCell ⟨b, j, none⟩ v) :=
  ⟨own_set h.row hb (by decide) _ _, h.len, fun i hi => ⟨(h.each i hi).1, (h.each i hi).2.1, own_set (h.each i hi).2.2 hb (by decide) _ _⟩⟩
theorem PlacesAt.next {B : Nat} {u v' : Value} {vs : List PlV} {ps : List Pl} {x x2 : World} {v l : ByteArray} {pa : Option Addr} {pn pc : Nat} {ts : List Tst} (h : PlacesAt B u vs ps x) (hr : x.ownsRow 0 62 5 (.slice pa pn pc) ts.length (testR.flat ts))
    (hown : x2.ownsRow B 105 3 v' (vs.length + 1) (placeR.flat vs ++ [.string v, .string l, .slice pa pn pc])) (hg : x.grownBy x2 u.ownBlock) : PlacesAt B v' (vs ++ [PlV.mk v l pa pn pc]) (ps ++ [Pl.mk v l ts]) x2 := by
  refine ⟨by rw [Rec.flat_app, Rec.flat_one, List.length_append]; exact hown, by simp [h.len], fun i hi => ?_⟩
  by_cases hlt : i < ps.length
  · have e1 : (vs ++ [PlV.mk v l pa pn pc]).getD i PlV.none = vs.getD i PlV.none := by simp [List.getD, List.getElem?_append_left (show i < vs.length by rw [h.len]; exact hlt)]
    have e2 : (ps ++ [Pl.mk v l ts]).getD i Pl.none = ps.getD i Pl.none := by simp [List.getD, List.getElem?_append_left hlt]
    rw [e1, e2]
    exact ⟨(h.each i hlt).1, (h.each i hlt).2.1, row_grown (h.each i hlt).2.2 h.row (by decide) hg⟩
  · have hi' : i = ps.length := by simp at hi; omega
    have e1 : (vs ++ [PlV.mk v l pa pn pc]).getD i PlV.none = PlV.mk v l pa pn pc := by simp [List.getD, hi', ← h.len]
    have e2 : (ps ++ [Pl.mk v l ts]).getD i Pl.none = Pl.mk v l ts := by simp [List.getD, hi']
    rw [e1, e2]
    exact ⟨rfl, rfl, row_grown hr h.row (by decide) hg⟩
theorem PlacesAt.grown {B B2 s : Nat} {u eu : Value} {vs : List PlV} {ps : List Pl} {x x2 : World} {n : Nat} {te : TypeId} {xs : List Value} (h : PlacesAt B u vs ps x) (he : x.ownsRow B2 te s eu n xs) (h1 : 105 ≠ te) (h2 : 62 ≠ te) (hg : x.grownBy x2 eu.ownBlock) : PlacesAt B u vs ps x2 :=
  ⟨row_grown h.row he h1 hg, h.len, fun i hi => ⟨(h.each i hi).1, (h.each i hi).2.1, row_grown (h.each i hi).2.2 he h2 hg⟩⟩
/-- The paths that are copied: expressions lie in blocks from B on, which are no rows that grow. -/
structure PathsAt (B : Nat) (u av : Value) (us : List PthV) (es : List Pth) (x : World) : Prop where
  row : x.ownsRow B 114 9 u us.length (pathR.flat us)
  len : us.length = es.length
  each : ∀ i, i < es.length → SameP (us.getD i PthV.none) (es.getD i Pth.none) ∧ HeldX (fun b => B ≤ b ∧ u.ownBlock ≠ some b ∧ av.ownBlock ≠ some b) x 4 (us.getD i PthV.none).x (es.getD i Pth.none).r
theorem PathsAt.step {B : Nat} {u av : Value} {us : List PthV} {es : List Pth} {x z : World} (h : PathsAt B u av us es x) (hB : Below x.heap.size x z) : PathsAt B u av us es z :=
  ⟨owns_keep h.row hB, h.len, fun i hi => ⟨(h.each i hi).1, (h.each i hi).2.below hB⟩⟩
theorem PathsAt.set {B : Nat} {u av : Value} {us : List PthV} {es : List Pth} {x : World} {b : Nat} {cs : Array Value} (h : PathsAt B u av us es x) (hb : x.heap[b]? = some (.cells cs 74)) (hbB : b < B) (j : Nat) (v : Value) : PathsAt B u av us es (x.setCell ⟨b, j, none⟩ v) :=
  ⟨own_set h.row hb (by decide) _ _, h.len, fun i hi => ⟨(h.each i hi).1, (h.each i hi).2.kept fun k hk hlt => ⟨hk, by simpa [World.setCell] using hlt, by
    have : b ≠ k := by have := hk.1; omega
    simp [World.setCell, Array.getElem?_modify, this]⟩⟩⟩
theorem PathsAt.next {B : Nat} {u v' av : Value} {us : List PthV} {es : List Pth} {x x2 : World} {q : PthV} {p : Pth} (h : PathsAt B u av us es x) (hs : SameP q p) (hq : HeldX (fun b => B ≤ b ∧ u.ownBlock ≠ some b ∧ av.ownBlock ≠ some b) x 4 q.x p.r)
    (hown : x2.ownsRow B 114 9 v' (us.length + 1) (pathR.flat us ++ pathR.enc q)) (hg : x.grownBy x2 u.ownBlock) (hat : v'.ownBlock = u.ownBlock ∨ v'.ownBlock = some x.heap.size) : PathsAt B v' av (us ++ [q]) (es ++ [p]) x2 := by
  have hk : ∀ {v : RxV} {r : Rx}, HeldX (fun b => B ≤ b ∧ u.ownBlock ≠ some b ∧ av.ownBlock ≠ some b) x 4 v r → HeldX (fun b => B ≤ b ∧ v'.ownBlock ≠ some b ∧ av.ownBlock ≠ some b) x2 4 v r := fun hx => hx.kept fun b hb hlt =>
    ⟨⟨hb.1, by
      rcases hat with e | e
      · rw [e]; exact hb.2.1
      · rw [e]; intro e2; simp only [Option.some.injEq] at e2; omega, hb.2.2⟩, Nat.lt_of_lt_of_le hlt hg.size, hg.block b hlt fun e => hb.2.1 e.symm⟩
  refine ⟨by rw [Rec.flat_app, Rec.flat_one, List.length_append]; exact hown, by simp [h.len], fun i hi => ?_⟩
  by_cases hlt : i < es.length
  · have e1 : (us ++ [q]).getD i PthV.none = us.getD i PthV.none := by simp [List.getD, List.getElem?_append_left (show i < us.length by rw [h.len]; exact hlt)]
    have e2 : (es ++ [p]).getD i Pth.none = es.getD i Pth.none := by simp [List.getD, List.getElem?_append_left hlt]
    rw [e1, e2]
    exact ⟨(h.each i hlt).1, hk (h.each i hlt).2⟩
  · have hi' : i = es.length := by simp at hi; omega
    have e1 : (us ++ [q]).getD i PthV.none = q := by simp [List.getD, hi', ← h.len]
    have e2 : (es ++ [p]).getD i Pth.none = p := by simp [List.getD, hi']
    rw [e1, e2]
    exact ⟨hs, hk hq⟩
/-- A row of texts grows beside them. -/
theorem PathsAt.grown {B B2 n : Nat} {u ru v' : Value} {us : List PthV} {es : List Pth} {x x2 : World} {xs : List Value} (h : PathsAt B u ru us es x) (hr : x.ownsRow B2 9 1 ru n xs) (hg : x.grownBy x2 ru.ownBlock) (hat : v'.ownBlock = ru.ownBlock ∨ v'.ownBlock = some x.heap.size) : PathsAt B u v' us es x2 :=
  ⟨row_grown h.row hr (by decide) hg, h.len, fun i hi => ⟨(h.each i hi).1, (h.each i hi).2.kept fun b hb hlt =>
    ⟨⟨hb.1, hb.2.1, by
      rcases hat with e | e
      · rw [e]; exact hb.2.2
      · rw [e]; intro e2; simp only [Option.some.injEq] at e2; omega⟩, Nat.lt_of_lt_of_le hlt hg.size, hg.block b hlt fun e => hb.2.2 e.symm⟩⟩⟩
/-- The three boxes, and all that is copied. -/
structure FQ (w x : World) (inp : Array Value) (rest : List Value) (pu : Value) (vs : List PlV) (ps : List Pl) (eu : Value) (us : List PthV) (es : List Pth) (ru : Value) (rs : List ByteArray) : Prop where
  below : Below w.heap.size w x
  b1 : x.heap[w.heap.size]? = some (.cells inp 74)
  b2 : x.heap[w.heap.size + 1]? = some (.cells #[.slice none 0 0, .slice none 0 0, .slice none 0 0, .bool false, .int .i64 0, .int .i64 0, .bool false] 74)
  b3 : x.heap[w.heap.size + 2]? = some (.cells ((pu :: eu :: ru :: rest).toArray) 74)
  places : PlacesAt (w.heap.size + 3) pu vs ps x
  paths : PathsAt (w.heap.size + 3) eu ru us es x
  rets : x.ownsRow (w.heap.size + 3) 9 1 ru rs.length (tx rs)
theorem FQ.step {w x z : World} {inp : Array Value} {rest : List Value} {pu : Value} {vs : List PlV} {ps : List Pl} {eu : Value} {us : List PthV} {es : List Pth} {ru : Value} {rs : List ByteArray} (h : FQ w x inp rest pu vs ps eu us es ru rs) (hB : Below x.heap.size x z) : FQ w z inp rest pu vs ps eu us es ru rs :=
  ⟨h.below.trans (hB.mono h.below.size), box_below h.b1 hB, box_below h.b2 hB, box_below h.b3 hB, h.places.step hB, h.paths.step hB, owns_keep h.rets hB⟩
theorem FQ.place {w x x2 : World} {inp : Array Value} {rest : List Value} {pu v' : Value} {vs : List PlV} {ps : List Pl} {v l : ByteArray} {pa : Option Addr} {pn pc : Nat} {ts : List Tst} (h : FQ w x inp rest pu vs ps (.slice none 0 0) [] [] (.slice none 0 0) []) (hr : x.ownsRow 0 62 5 (.slice pa pn pc) ts.length (testR.flat ts))
    (hown : x2.ownsRow (w.heap.size + 3) 105 3 v' (vs.length + 1) (placeR.flat vs ++ [.string v, .string l, .slice pa pn pc])) (hg : x.grownBy x2 pu.ownBlock) : FQ w (x2.setCell ⟨w.heap.size + 2, 0, none⟩ v') inp rest v' (vs ++ [PlV.mk v l pa pn pc]) (ps ++ [Pl.mk v l ts]) (.slice none 0 0) [] [] (.slice none 0 0) [] := by
  have hb1 := box_grown h.b1 h.places.row (by decide) hg
  have hb2 := box_grown h.b2 h.places.row (by decide) hg
  have hb3 := box_grown h.b3 h.places.row (by decide) hg
  exact ⟨(h.below.grown hg h.below.size (fun j hj => by have := (h.places.row.lt j hj).1; omega)).setCell (by simp) _, set_oth hb1 (by omega) _ _, set_oth hb2 (by omega) _ _, by simpa using set_heap hb3 0 v', (h.places.next hr hown hg).set hb3 _ _,
    ⟨World.ownsRow_nil .., rfl, fun i hi => by simp at hi⟩, World.ownsRow_nil ..⟩
theorem FQ.path {w x x2 : World} {inp : Array Value} {rest : List Value} {pu : Value} {vs : List PlV} {ps : List Pl} {eu v' : Value} {us : List PthV} {es : List Pth} {q : PthV} {p : Pth} (h : FQ w x inp rest pu vs ps eu us es (.slice none 0 0) []) (hs : SameP q p) (hq : HeldX (fun b => w.heap.size + 3 ≤ b ∧ eu.ownBlock ≠ some b) x 4 q.x p.r)
    (hown : x2.ownsRow (w.heap.size + 3) 114 9 v' (us.length + 1) (pathR.flat us ++ pathR.enc q)) (hg : x.grownBy x2 eu.ownBlock) (hat : v'.ownBlock = eu.ownBlock ∨ v'.ownBlock = some x.heap.size) : FQ w (x2.setCell ⟨w.heap.size + 2, 1, none⟩ v') inp rest pu vs ps v' (us ++ [q]) (es ++ [p]) (.slice none 0 0) [] := by
  have hb1 := box_grown h.b1 h.paths.row (by decide) hg
  have hb2 := box_grown h.b2 h.paths.row (by decide) hg
  have hb3 := box_grown h.b3 h.paths.row (by decide) hg
  exact ⟨(h.below.grown hg h.below.size (fun j hj => by have := (h.paths.row.lt j hj).1; omega)).setCell (by simp) _, set_oth hb1 (by omega) _ _, set_oth hb2 (by omega) _ _, by simpa using set_heap hb3 1 v', (h.places.grown h.paths.row (by decide) (by decide) hg).set hb3 _ _,
    (h.paths.next hs (hq.weak fun b hb _ => ⟨hb.1, hb.2, by simp [Value.ownBlock]⟩) hown hg hat).set hb3 (by omega) _ _, World.ownsRow_nil ..⟩
theorem FQ.ret {w x x2 : World} {inp : Array Value} {rest : List Value} {pu : Value} {vs : List PlV} {ps : List Pl} {eu v' : Value} {us : List PthV} {es : List Pth} {ru : Value} {rs : List ByteArray} {s : ByteArray} (h : FQ w x inp rest pu vs ps eu us es ru rs)
    (hown : x2.ownsRow (w.heap.size + 3) 9 1 v' (rs.length + 1) (tx rs ++ [.string s])) (hg : x.grownBy x2 ru.ownBlock) (hat : v'.ownBlock = ru.ownBlock ∨ v'.ownBlock = some x.heap.size) : FQ w (x2.setCell ⟨w.heap.size + 2, 2, none⟩ v') inp rest pu vs ps eu us es v' (rs ++ [s]) := by
  have hb1 := box_grown h.b1 h.rets (by decide) hg
  have hb2 := box_grown h.b2 h.rets (by decide) hg
  have hb3 := box_grown h.b3 h.rets (by decide) hg
  refine ⟨(h.below.grown hg h.below.size (fun j hj => by have := (h.rets.lt j hj).1; omega)).setCell (by simp) _, set_oth hb1 (by omega) _ _, set_oth hb2 (by omega) _ _, by simpa using set_heap hb3 2 v', (h.places.grown h.rets (by decide) (by decide) hg).set hb3 _ _,
    (h.paths.grown h.rets hg hat).set hb3 (by omega) _ _, ?_⟩
  rw [tx_app, List.length_append]
  exact own_set hown hb3 (by decide) _ _
end Go.Proofs.Ytnmjhbnadfjapaa
/-
  THE NAMES AND LABELS OF A QUERY, by contract: the reference's and the program's.
-/
namespace Go.Proofs.Ytnmjhbnadfjapaa
open Go.ChangeShapes Go.WideShapes Go.ChangeAt Go.RowKit

theorem box7q {x : World} {b : Nat} {c0 c1 c2 c3 c4 c5 c6 : Value} {t : TypeId} (h : x.heap[b]? = some (.cells #[c0, c1, c2, c3, c4, c5, c6] t)) :
    (x.cell? ⟨b, 0, none⟩ = some c0 ∧ x.cell? ⟨b, 1, none⟩ = some c1 ∧ x.cell? ⟨b, 2, none⟩ = some c2 ∧ x.cell? ⟨b, 3, none⟩ = some c3 ∧ x.cell? ⟨b, 4, none⟩ = some c4 ∧ x.cell? ⟨b, 5, none⟩ = some c5 ∧ x.cell? ⟨b, 6, none⟩ = some c6) ∧ ∀ j, x.frozen? ⟨b, j, none⟩ = false := by
  simp [World.cell?, World.frozen?, h]
/-- A row of texts that is being told, behind the box that holds the query. -/
structure TR (w x : World) (inp : Array Value) (v : Value) (L : List ByteArray) : Prop where
  below : Below w.heap.size w x
  box : x.heap[w.heap.size]? = some (.cells inp 74)
  row : x.ownsRow (w.heap.size + 1) 9 1 v L.length (tx L)
theorem TR.step {w x z : World} {inp : Array Value} {v : Value} {L : List ByteArray} (h : TR w x inp v L) (hB : Below x.heap.size x z) : TR w z inp v L :=
  ⟨h.below.trans (hB.mono h.below.size), box_below h.box hB, owns_keep h.row hB⟩
theorem TR.next {w x z : World} {inp : Array Value} {v v' : Value} {L : List ByteArray} {s : ByteArray} (h : TR w x inp v L) (hown : z.ownsRow (w.heap.size + 1) 9 1 v' (L.length + 1) (tx L ++ [.string s])) (hg : x.grownBy z v.ownBlock) : TR w z inp v' (L ++ [s]) := by
  refine ⟨h.below.grown hg h.below.size (fun j hj => by have := (h.row.lt j hj).1; omega), box_grown h.box h.row (by decide) hg, ?_⟩
  rw [tx_app, List.length_append]
  exact hown
theorem TR.none0 (w : World) (inp : Array Value) : TR w (w.alloc (.cells inp 74)) inp (.slice none 0 0) [] :=
  ⟨(Below.refl _ _).alloc (Nat.le_refl _) _, heap_alloc_new _ _, World.ownsRow_nil ..⟩
theorem TR.made0 (w : World) (inp : Array Value) : TR w ((w.alloc (.cells inp 74)).alloc (.cells #[] 9)) inp (.slice (some ⟨w.heap.size + 1, 0, none⟩) 0 0) [] := by
  refine ⟨((Below.refl _ _).alloc (Nat.le_refl _) _).alloc (by simp) _, (heap_alloc_old _ _ (by simp)).trans (heap_alloc_new _ _), ?_⟩
  have h := World.ownsRow_lit (base := w.heap.size + 1) (e := 9) (size := 1) (w.alloc (.cells inp 74)) #[] 0 (by simp) (by decide) rfl
  rw [show (w.alloc (.cells inp 74)).heap.size = w.heap.size + 1 by simp] at h
  exact h
theorem nil_txt : (⟨#[]⟩ : ByteArray).toList = [] := by rw [ByteArray.toList_eq]
theorem txt_nil {s : ByteArray} (h : s.toList = []) : s = ⟨#[]⟩ := txt_inj (h.trans nil_txt.symm)
def namesQ (es : List Pth) : List ByteArray := (es.map Pth.v).filter fun s => decide (s ≠ ⟨#[]⟩)
theorem namesQ_snoc (es : List Pth) (k : Nat) (hk : k < es.length) : namesQ (es.take (k + 1)) = namesQ (es.take k) ++ if (es.getD k Pth.none).v = ⟨#[]⟩ then [] else [(es.getD k Pth.none).v] := by
  unfold namesQ
  rw [take_snocR es Pth.none k hk, List.map_append, List.filter_append]
  generalize es.getD k Pth.none = p
  by_cases h : p.v = ⟨#[]⟩ <;> simp [h]
theorem namesQ_le (es : List Pth) : (namesQ es).length ≤ es.length := by
  unfold namesQ
  exact Nat.le_trans (List.length_filter_le _ _) (by simp)

end Go.Proofs.Ytnmjhbnadfjapaa
