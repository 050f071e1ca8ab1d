/-
  GRAPHS IN MEMORY: what a graph's two slices hold; a graph that came in. No function is named here.
-/
import Derived.Test.YtnmjhbnadfjapaaRec
import Derived.Lib.SmallJoins
import Derived.Deep.Strs
namespace Go.Proofs.Ytnmjhbnadfjapaa
open Go.ChangeShapes Go.WideShapes Go.ChangeAt Go.RowKit

/-- A property: its name, and its value's kind, number and text. -/
structure Pp where
  s : ByteArray
  k : Int
  n : Int
  t : ByteArray
def Pp.none : Pp := ⟨⟨#[]⟩, 0, 0, ⟨#[]⟩⟩
def propR : Rec Pp := ⟨fun x => [.string x.s, .int .i64 x.k, .int .i64 x.n, .string x.t], 4, by decide, fun _ => rfl, fun x u hu => by simp at hu; rcases hu with rfl | rfl | rfl | rfl <;> rfl, Pp.none⟩
def Pp.wf (x : Pp) : Prop := (Lit.int .i64 x.k).wf = true ∧ (Lit.int .i64 x.n).wf = true
/-- A node as it lies: its label, and where its properties are. -/
structure NdV where
  l : ByteArray
  a : Option Addr
  n : Nat
  c : Nat
def NdV.none : NdV := ⟨⟨#[]⟩, .none, 0, 0⟩
def nodeR : Rec NdV := ⟨fun x => [.string x.l, .slice x.a x.n x.c], 2, by decide, fun _ => rfl, fun x u hu => by simp at hu; rcases hu with rfl | rfl <;> rfl, NdV.none⟩
structure Eg where
  f : Int
  t : Int
  l : ByteArray
  w : Int
def Eg.none : Eg := ⟨0, 0, ⟨#[]⟩, 0⟩
def edgeR : Rec Eg := ⟨fun x => [.int .i64 x.f, .int .i64 x.t, .string x.l, .int .i64 x.w], 4, by decide, fun _ => rfl, fun x u hu => by simp at hu; rcases hu with rfl | rfl | rfl | rfl <;> rfl, Eg.none⟩
def Eg.wf (x : Eg) : Prop := (Lit.int .i64 x.f).wf = true ∧ (Lit.int .i64 x.t).wf = true ∧ (Lit.int .i64 x.w).wf = true
structure Nd where
  l : ByteArray
  ps : List Pp
def Nd.none : Nd := ⟨⟨#[]⟩, []⟩
def Nd.wf (x : Nd) : Prop := x.ps.length ≤ maxLen ∧ ∀ p ∈ x.ps, p.wf
structure Gr where
  ns : List Nd
  es : List Eg
def Gr.wf (g : Gr) : Prop := g.ns.length ≤ maxLen ∧ (∀ x ∈ g.ns, x.wf) ∧ g.es.length ≤ maxLen ∧ ∀ x ∈ g.es, x.wf
def PropsOf (w : World) (vs : List NdV) (ns : List Nd) : Prop := vs.length = ns.length ∧ ∀ i, i < ns.length → (vs.getD i NdV.none).l = (ns.getD i Nd.none).l ∧ HoldsR propR w (.slice (vs.getD i NdV.none).a (vs.getD i NdV.none).n (vs.getD i NdV.none).c) (ns.getD i Nd.none).ps
def HoldsN (w : World) (v : Value) (ns : List Nd) : Prop := ∃ vs, HoldsR nodeR w v vs ∧ PropsOf w vs ns
def HoldsG (w : World) (nv ev : Value) (g : Gr) : Prop := HoldsN w nv g.ns ∧ HoldsR edgeR w ev g.es
theorem PropsOf.calm {w w' : World} {vs : List NdV} {ns : List Nd} (h : PropsOf w vs ns) (hc : GoX.Calm w w') : PropsOf w' vs ns := ⟨h.1, fun i hi => ⟨(h.2 i hi).1, (h.2 i hi).2.calm hc⟩⟩
theorem HoldsN.calm {w w' : World} {v : Value} {ns : List Nd} (h : HoldsN w v ns) (hc : GoX.Calm w w') : HoldsN w' v ns := by
  obtain ⟨vs, h1, h2⟩ := h
  exact ⟨vs, h1.calm hc, h2.calm hc⟩
theorem HoldsG.calm {w w' : World} {nv ev : Value} {g : Gr} (h : HoldsG w nv ev g) (hc : GoX.Calm w w') : HoldsG w' nv ev g := ⟨h.1.calm hc, h.2.calm hc⟩
theorem HoldsG.below {w w' : World} {nv ev : Value} {g : Gr} (h : HoldsG w nv ev g) (hb : Below w.heap.size w w') : HoldsG w' nv ev g := h.calm (.of_below hb)
theorem HoldsN.slice {w : World} {v : Value} {ns : List Nd} (h : HoldsN w v ns) : ∃ a c, v = .slice a ns.length c := by
  obtain ⟨vs, ⟨a, c, rfl, _⟩, h2, _⟩ := h
  exact ⟨a, c, by rw [h2]⟩
/-- A node at its place. -/
theorem node_at {w : World} {a : Option Addr} {n c : Nat} {ns : List Nd} (h : HoldsN w (.slice a n c) ns) {k : Nat} (hk : k < ns.length) :
    ∃ b off pa pn pc, a = some ⟨b, off, none⟩ ∧ b < w.heap.size ∧ w.cell? ⟨b, off + k * 2, none⟩ = some (.string (ns.getD k Nd.none).l) ∧ w.cell? ⟨b, off + k * 2 + 1, none⟩ = some (.slice pa pn pc) ∧ HoldsR propR w (.slice pa pn pc) (ns.getD k Nd.none).ps := by
  obtain ⟨vs, ⟨a', c', he, hr⟩, h1, h2⟩ := h
  simp only [Value.slice.injEq] at he
  obtain ⟨rfl, _, _⟩ := he
  obtain ⟨b, off, rfl, hb, hc⟩ := rec_at hr (k := k) (by omega)
  obtain ⟨hl, hp⟩ := h2 k hk
  refine ⟨b, off, (vs.getD k NdV.none).a, (vs.getD k NdV.none).n, (vs.getD k NdV.none).c, rfl, hb, ?_, hc 1 _ rfl, hp⟩
  rw [← hl]
  exact hc 0 _ rfl
theorem prop_at {w : World} {a : Option Addr} {ps : List Pp} (h : RowAt w a (propR.flat ps)) {k : Nat} (hk : k < ps.length) :
    ∃ b off, a = some ⟨b, off, none⟩ ∧ b < w.heap.size ∧ w.cell? ⟨b, off + k * 4, none⟩ = some (.string (ps.getD k Pp.none).s) ∧ w.cell? ⟨b, off + k * 4 + 1, none⟩ = some (.int .i64 (ps.getD k Pp.none).k) ∧ w.cell? ⟨b, off + k * 4 + 2, none⟩ = some (.int .i64 (ps.getD k Pp.none).n) ∧ w.cell? ⟨b, off + k * 4 + 3, none⟩ = some (.string (ps.getD k Pp.none).t) := by
  obtain ⟨b, off, h1, h2, h3⟩ := rec_at h hk
  exact ⟨b, off, h1, h2, h3 0 _ rfl, h3 1 _ rfl, h3 2 _ rfl, h3 3 _ rfl⟩
theorem edge_at {w : World} {a : Option Addr} {ps : List Eg} (h : RowAt w a (edgeR.flat ps)) {k : Nat} (hk : k < ps.length) :
    ∃ b off, a = some ⟨b, off, none⟩ ∧ b < w.heap.size ∧ w.cell? ⟨b, off + k * 4, none⟩ = some (.int .i64 (ps.getD k Eg.none).f) ∧ w.cell? ⟨b, off + k * 4 + 1, none⟩ = some (.int .i64 (ps.getD k Eg.none).t) ∧ w.cell? ⟨b, off + k * 4 + 2, none⟩ = some (.string (ps.getD k Eg.none).l) ∧ w.cell? ⟨b, off + k * 4 + 3, none⟩ = some (.int .i64 (ps.getD k Eg.none).w) := by
  obtain ⟨b, off, h1, h2, h3⟩ := rec_at h hk
  exact ⟨b, off, h1, h2, h3 0 _ rfl, h3 1 _ rfl, h3 2 _ rfl, h3 3 _ rfl⟩
/-- Elements of a slice that lies in what came in. -/
theorem open_recsc {α : Type} {R : Rec α} {H : Type} {enc : TypeId × Value → H} {P : Program} {w : World} {sp : Nat → Bool} {held : Bool} {st e : TypeId} {v : Value} {fuel : Nat} {x : DataW H × List MemPlace} {ok : α → Prop}
    (hst : P.underlying st = some (.slice e)) (hc : P.cellsOf e = R.n) (hdec : ∀ fuel cs x, cs.length = R.n → DataW.trod enc P w 0 sp held fuel e cs = some x → ∃ p, cs = R.enc p ∧ ok p)
    (hf : DataW.trod enc P w 0 sp held fuel st [v] = some x) : ∃ (ps : List α) (a : Option Addr) (c : Nat), v = .slice a ps.length c ∧ ps.length ≤ maxLen ∧ HoldsR R w v ps ∧ ∀ p ∈ ps, ok p := by
  rcases DataW.trod_slice hst hf with ⟨hcs, _⟩ | ⟨a, len, cap, elems, rest, n, _, hcs, _, _, hl, hm, hlen, hel, _, _⟩
  · simp only [List.cons.injEq, and_true] at hcs
    subst hcs
    exact ⟨[], .none, 0, rfl, by unfold maxLen; simp, ⟨.none, 0, rfl, .inl rfl⟩, fun _ h => by cases h⟩
  · simp only [List.cons.injEq, and_true] at hcs
    subst hcs
    have each : ∀ i, ∃ p : α, i < len → (∀ j u, (R.enc p)[j]? = some u → w.cell? ((a.add (i * R.n)).add j) = some u) ∧ ok p := by
      intro i
      by_cases hi : i < len
      · have hb := hel i hi
        rw [List.getElem?_eq_getElem (by omega), hc, Option.bind_eq_some_iff] at hb
        obtain ⟨cs', hcs', hy⟩ := hb
        obtain ⟨_, hcl, hcc⟩ := World.cells?_some hcs'
        obtain ⟨p, rfl, hp⟩ := hdec _ _ _ hcl hy
        exact ⟨p, fun _ => ⟨fun j u hu => by
          have hj := (List.getElem?_eq_some_iff.1 hu).1
          rw [R.len] at hj
          exact (hcc j hj).trans hu, hp⟩⟩
      · exact ⟨R.dflt, fun h => absurd h hi⟩
    obtain ⟨f, hf⟩ := Classical.skolem.1 each
    obtain ⟨b, off, o⟩ := a
    by_cases hz : len = 0
    · subst hz
      exact ⟨[], _, cap, rfl, by unfold maxLen; simp, ⟨_, cap, rfl, .inl rfl⟩, fun _ h => by cases h⟩
    · have h0 : 0 < (R.enc (f 0)).length := by rw [R.len]; exact R.pos
      have hx := (hf 0 (by omega)).1 0 _ (List.getElem?_eq_getElem h0)
      obtain rfl : o = .none := by
        cases o with
        | none => rfl
        | some u => exact absurd hx (by simp only [Addr.add, World.cell?]; split <;> simp)
      have hbs : b < w.heap.size := by
        rw [add_plain, add_plain] at hx
        exact World.block_lt_of_cell? w _ hx
      refine ⟨(List.range len).map f, _, cap, by simp; rfl, by simp; omega, ⟨some ⟨b, off, .none⟩, cap, by simp, .inr ⟨b, off, rfl, hbs, fun j u hj => ?_⟩⟩, fun p hp => ?_⟩
      · have hl := (List.getElem?_eq_some_iff.1 hj).1
        rw [Rec.flat_len, List.length_map, List.length_range] at hl
        have hn := R.pos
        have hk : j / R.n < len := Nat.div_lt_of_lt_mul (by rw [Nat.mul_comm]; exact hl)
        have hm' : j % R.n < R.n := Nat.mod_lt _ hn
        have e : j = j / R.n * R.n + j % R.n := by have := Nat.div_add_mod j R.n; rw [Nat.mul_comm] at this; omega
        rw [e, Rec.flat_at _ _ _ (by simpa using hk) hm'] at hj
        have e2 : ((List.range len).map f).getD (j / R.n) R.dflt = f (j / R.n) := by simp [List.getD, hk]
        rw [e2] at hj
        have := (hf (j / R.n) hk).1 _ _ hj
        rw [add_plain, add_plain, Nat.add_assoc, ← e] at this
        exact this
      · obtain ⟨i, hi, rfl⟩ := List.mem_map.1 hp
        exact (hf i (List.mem_range.1 hi)).2
/-- A graph that came in. -/
theorem open_graph {H : Type} {enc : TypeId × Value → H} {P : Program} {w : World} {sp : Nat → Bool} {held : Bool} {t tn te tp : TypeId} {f0 f1 n0 n1 p0 p1 v0 v1 v2 e0 e1 e2 e3 : Field} {v : Value} {d : DataW H} {qs : List MemPlace} {r : Reach} {b0 : Nat}
    (ht : P.underlying t = some (.struct #[f0, f1])) (hs0 : P.underlying f0.type = some (.slice tn)) (hs1 : P.underlying f1.type = some (.slice te)) (hn : P.underlying tn = some (.struct #[n0, n1])) (hsp : P.underlying n1.type = some (.slice tp))
    (hp : P.underlying tp = some (.struct #[p0, p1])) (hv : P.underlying p1.type = some (.struct #[v0, v1, v2])) (he : P.underlying te = some (.struct #[e0, e1, e2, e3]))
    (i0 : P.underlying n0.type = some .string) (i1 : P.underlying p0.type = some .string) (i2 : P.underlying v0.type = some (.int .i64)) (i3 : P.underlying v1.type = some (.int .i64)) (i4 : P.underlying v2.type = some .string)
    (j0 : P.underlying e0.type = some (.int .i64)) (j1 : P.underlying e1.type = some (.int .i64)) (j2 : P.underlying e2.type = some .string) (j3 : P.underlying e3.type = some (.int .i64))
    (hagg : (match P.underlying t with | some (.struct _) | some (.array _ _) => true | _ => false) = true) (hc : P.cellsOf t = 2) (hcn : P.cellsOf tn = 2) (hcp : P.cellsOf tp = 4) (hce : P.cellsOf te = 4)
    (o0 : f0.offset = 0) (o1 : f1.offset = 1) (c0 : P.cellsOf f0.type = 1) (c1 : P.cellsOf f1.type = 1) (q0 : n0.offset = 0) (q1 : n1.offset = 1) (d0 : P.cellsOf n0.type = 1) (d1 : P.cellsOf n1.type = 1)
    (s0 : p0.offset = 0) (s1 : p1.offset = 1) (x0 : P.cellsOf p0.type = 1) (x1 : P.cellsOf p1.type = 3) (u0 : v0.offset = 0) (u1 : v1.offset = 1) (u2 : v2.offset = 2) (y0 : P.cellsOf v0.type = 1) (y1 : P.cellsOf v1.type = 1) (y2 : P.cellsOf v2.type = 1)
    (w0 : e0.offset = 0) (w1 : e1.offset = 1) (w2 : e2.offset = 2) (w3 : e3.offset = 3) (z0 : P.cellsOf e0.type = 1) (z1 : P.cellsOf e1.type = 1) (z2 : P.cellsOf e2.type = 1) (z3 : P.cellsOf e3.type = 1)
    (hval : Value.okWide P w r b0 t v) (h : DataW.Trod enc P w 0 sp held t v d qs) : ∃ (g : Gr) (nv ev : Value), v = .agg #[nv, ev] ∧ HoldsG w nv ev g ∧ g.wf := by
  obtain ⟨l, hl, rfl, _⟩ := GoX.arg_agg hagg hc hval
  obtain ⟨fuel, hf⟩ := h
  match l, hl with
  | [nv, ev], _ =>
    obtain ⟨_, _, _, _, _, g0, g1⟩ := trod_struct2 ht (show DataW.trod enc P w 0 sp held fuel t [nv, ev] = some _ from hf)
    rw [o0, c0] at g0
    rw [o1, c1] at g1
    have hdp : ∀ fuel cs x, cs.length = propR.n → DataW.trod enc P w 0 sp held fuel tp cs = some x → ∃ p, cs = propR.enc p ∧ Pp.wf p := fun fuel cs x hl hx => by
      match cs, hl with
      | [a0, a1, a2, a3], _ =>
        obtain ⟨_, _, _, _, _, r0, r1⟩ := trod_struct2 hp hx
        rw [s0, x0] at r0
        rw [s1, x1] at r1
        obtain ⟨_, _, _, _, _, _, k0, k1, k2⟩ := Go.Deep.trod_struct3 hv r1
        rw [u0, y0] at k0
        rw [u1, y1] at k1
        rw [u2, y2] at k2
        obtain ⟨m0, b0, _, _⟩ := DataW.trod_string i1 r0
        obtain ⟨m1, b1, _, t1⟩ := DataW.trod_int i2 k0
        obtain ⟨m2, b2, _, t2⟩ := DataW.trod_int i3 k1
        obtain ⟨m3, b3, _, _⟩ := DataW.trod_string i4 k2
        simp only [List.drop_zero, List.take_succ_cons, List.take_zero, List.cons.injEq, and_true, List.drop_succ_cons] at b0 b1 b2 b3
        subst b0 b1 b2 b3
        exact ⟨⟨m0, m1, m2, m3⟩, rfl, t1, t2⟩
    have hdn : ∀ fuel cs x, cs.length = nodeR.n → DataW.trod enc P w 0 sp held fuel tn cs = some x → ∃ p : NdV, cs = nodeR.enc p ∧ ∃ ps : List Pp, HoldsR propR w (.slice p.a p.n p.c) ps ∧ ps.length ≤ maxLen ∧ ∀ q ∈ ps, q.wf := fun fuel cs x hl hx => by
      match cs, hl with
      | [a0, a1], _ =>
        obtain ⟨_, _, _, _, _, r0, r1⟩ := trod_struct2 hn hx
        rw [q0, d0] at r0
        rw [q1, d1] at r1
        obtain ⟨m0, b0, _, _⟩ := DataW.trod_string i0 r0
        obtain ⟨ps, a, c, b1, hm, hh, hw⟩ := open_recsc (R := propR) (ok := Pp.wf) hsp hcp hdp (show DataW.trod enc P w 0 sp held _ n1.type [a1] = some _ by simpa using r1)
        simp only [List.drop_zero, List.take_succ_cons, List.take_zero, List.cons.injEq, and_true] at b0
        subst b0
        subst b1
        exact ⟨⟨m0, a, ps.length, c⟩, rfl, ps, hh, hm, hw⟩
    have hde : ∀ fuel cs x, cs.length = edgeR.n → DataW.trod enc P w 0 sp held fuel te cs = some x → ∃ p, cs = edgeR.enc p ∧ Eg.wf p := fun fuel cs x hl hx => by
      match cs, hl with
      | [a0, a1, a2, a3], _ =>
        obtain ⟨_, _, _, _, _, _, _, r0, r1, r2, r3⟩ := Go.Joins.trod_struct4 he hx
        rw [w0, z0] at r0
        rw [w1, z1] at r1
        rw [w2, z2] at r2
        rw [w3, z3] at r3
        obtain ⟨m0, b0, _, t0⟩ := DataW.trod_int j0 r0
        obtain ⟨m1, b1, _, t1⟩ := DataW.trod_int j1 r1
        obtain ⟨m2, b2, _, _⟩ := DataW.trod_string j2 r2
        obtain ⟨m3, b3, _, t3⟩ := DataW.trod_int j3 r3
        simp only [List.drop_zero, List.take_succ_cons, List.take_zero, List.cons.injEq, and_true, List.drop_succ_cons] at b0 b1 b2 b3
        subst b0 b1 b2 b3
        exact ⟨⟨m0, m1, m2, m3⟩, rfl, t0, t1, t3⟩
    obtain ⟨es, ea, ec, rfl, hem, heh, hew⟩ := open_recsc (R := edgeR) (ok := Eg.wf) hs1 hce hde (show DataW.trod enc P w 0 sp held _ f1.type [ev] = some _ by simpa using g1)
    obtain ⟨vs, na, nc, rfl, hnm, hnh, hnw⟩ := open_recsc (R := nodeR) hs0 hcn hdn (show DataW.trod enc P w 0 sp held _ f0.type [nv] = some _ by simpa using g0)
    have hch : ∀ p : NdV, ∃ ps : List Pp, p ∈ vs → HoldsR propR w (.slice p.a p.n p.c) ps ∧ ps.length ≤ maxLen ∧ ∀ q ∈ ps, q.wf := fun p => by
      by_cases hp : p ∈ vs
      · obtain ⟨ps, h1, h2, h3⟩ := hnw p hp
        exact ⟨ps, fun _ => ⟨h1, h2, h3⟩⟩
      · exact ⟨[], fun h => absurd h hp⟩
    obtain ⟨f, hf⟩ := Classical.skolem.1 hch
    refine ⟨⟨vs.map fun p => ⟨p.l, f p⟩, es⟩, _, _, rfl, ⟨⟨vs, hnh, by simp, fun i hi => ?_⟩, heh⟩, by simpa using hnm, fun x hx => ?_, hem, hew⟩
    · have hi' : i < vs.length := by simpa using hi
      have e1 : vs.getD i NdV.none = vs[i] := by simp [List.getD, hi']
      have e2 : (vs.map fun p : NdV => (⟨p.l, f p⟩ : Nd)).getD i Nd.none = ⟨vs[i].l, f vs[i]⟩ := by simp [List.getD, hi']
      show _ = ((vs.map fun p : NdV => (⟨p.l, f p⟩ : Nd)).getD i Nd.none).l ∧ HoldsR propR w _ ((vs.map fun p : NdV => (⟨p.l, f p⟩ : Nd)).getD i Nd.none).ps
      rw [e1, e2]
      exact ⟨rfl, (hf vs[i] (List.getElem_mem _)).1⟩
    · obtain ⟨p, hp, rfl⟩ := List.mem_map.1 hx
      exact ⟨(hf p hp).2.1, (hf p hp).2.2⟩
end Go.Proofs.Ytnmjhbnadfjapaa
/-
  A GRAPH THAT IS COPIED: what lies between its parts.
-/
namespace Go.Proofs.Ytnmjhbnadfjapaa
open Go.ChangeShapes Go.WideShapes Go.ChangeAt Go.RowKit

theorem own_shape {w : World} {B t s n : Nat} {v : Value} {xs : List Value} (h : w.ownsRow B t s v n xs) : ∃ a c, v = .slice a n c := by
  rcases h.2 with ⟨rfl, h0⟩ | ⟨g, cap, cur, rfl, _⟩
  · exact ⟨none, 0, by rw [h0]⟩
  · exact ⟨_, _, rfl⟩
theorem own0 {w : World} {B t s n : Nat} {v : Value} {xs : List Value} (h : w.ownsRow B t s v n xs) : w.ownsRow 0 t s v n xs := by
  obtain ⟨hl, h⟩ := h
  refine ⟨hl, ?_⟩
  rcases h with h | ⟨g, cap, cur, h1, _, h3⟩
  · exact .inl h
  · exact .inr ⟨g, cap, cur, h1, Nat.zero_le _, h3⟩
theorem ne_types {w : World} {b c : Nat} {x y : Array Value} {t u : TypeId} (h1 : w.heap[b]? = some (.cells x t)) (h2 : w.heap[c]? = some (.cells y u)) (ht : t ≠ u) : b ≠ c := fun e => by
  subst e
  rw [h1] at h2
  injection h2 with h2
  injection h2 with _ h2 _
  exact ht h2
theorem set_oth {w : World} {g b : Nat} {o : Obj} (h : w.heap[b]? = some o) (hne : g ≠ b) (j : Nat) (u : Value) : (w.setCell ⟨g, j, none⟩ u).heap[b]? = some o := by
  simp [World.setCell, Array.getElem?_modify, hne, h]
theorem set_heap {x : World} {b : Nat} {cs : Array Value} {t : TypeId} (h : x.heap[b]? = some (.cells cs t)) (j : Nat) (v : Value) : (x.setCell ⟨b, j, none⟩ v).heap[b]? = some (.cells (cs.setIfInBounds j v) t) := by
  simp [World.setCell, Array.getElem?_modify, h]
theorem own_set {w : World} {B te s n b : Nat} {v : Value} {xs : List Value} {cs : Array Value} {tb : TypeId} (h : w.ownsRow B te s v n xs) (hb : w.heap[b]? = some (.cells cs tb)) (ht : te ≠ tb) (j : Nat) (u : Value) : (w.setCell ⟨b, j, none⟩ u).ownsRow B te s v n xs := by
  obtain ⟨hl, h⟩ := h
  refine ⟨hl, ?_⟩
  rcases h with h | ⟨g, cap, cur, h1, h2, h3, h4⟩
  · exact .inl h
  · exact .inr ⟨g, cap, cur, h1, h2, set_oth h3 (ne_types hb h3 (Ne.symm ht)) j u, h4⟩
theorem row_ne {w : World} {B te s n b : Nat} {v : Value} {xs : List Value} {cs : Array Value} {tb : TypeId} (h : w.ownsRow B te s v n xs) (hb : w.heap[b]? = some (.cells cs tb)) (ht : te ≠ tb) : v.ownBlock ≠ some b := fun e => by
  rcases h.2 with ⟨rfl, _⟩ | ⟨g, cap, cur, rfl, _, h3, _⟩
  · cases e
  · simp only [Value.ownBlock, Option.some.injEq] at e
    subst e
    exact ne_types h3 hb ht rfl
theorem row_grown {w w' : World} {B1 B2 t1 t2 s1 s2 n1 n2 : Nat} {v1 v2 : Value} {xs1 xs2 : List Value} (h1 : w.ownsRow B1 t1 s1 v1 n1 xs1) (h2 : w.ownsRow B2 t2 s2 v2 n2 xs2) (ht : t1 ≠ t2) (hg : w.grownBy w' v2.ownBlock) : w'.ownsRow B1 t1 s1 v1 n1 xs1 := by
  obtain ⟨hl, h⟩ := h1
  refine ⟨hl, ?_⟩
  rcases h with h | ⟨g, cap, cur, e1, e2, e3, e4⟩
  · exact .inl h
  · exact .inr ⟨g, cap, cur, e1, e2, (hg.block g (Array.getElem?_eq_some_iff.1 e3).1 (Ne.symm (row_ne h2 e3 ht.symm))).trans e3, e4⟩
theorem box_grown {w w' : World} {B te s n b : Nat} {v : Value} {xs : List Value} {cs : Array Value} {tb : TypeId} (hb : w.heap[b]? = some (.cells cs tb)) (h : w.ownsRow B te s v n xs) (ht : te ≠ tb) (hg : w.grownBy w' v.ownBlock) : w'.heap[b]? = some (.cells cs tb) :=
  (hg.block _ (Array.getElem?_eq_some_iff.1 hb).1 (Ne.symm (row_ne h hb ht))).trans hb
theorem box_below {w w' : World} {b : Nat} {o : Obj} (h : w.heap[b]? = some o) (hB : Below w.heap.size w w') : w'.heap[b]? = some o := (hB.block _ (Array.getElem?_eq_some_iff.1 h).1).trans h
/-- A node's properties, being copied. -/
structure InN (l : ByteArray) (ps : List Pp) (pu : Value) (y x : World) : Prop where
  below : Below y.heap.size y x
  box : x.heap[y.heap.size]? = some (.cells #[.string l, pu] 44)
  row : x.ownsRow y.heap.size 83 4 pu ps.length (propR.flat ps)
theorem InN.step {l : ByteArray} {ps : List Pp} {pu : Value} {y x z : World} (h : InN l ps pu y x) (hB : Below x.heap.size x z) : InN l ps pu y z :=
  ⟨h.below.trans (hB.mono h.below.size), box_below h.box hB, owns_keep h.row hB⟩
theorem InN.next {l : ByteArray} {ps : List Pp} {pu v' : Value} {y x x2 : World} {q : Pp} (h : InN l ps pu y x) (hown : x2.ownsRow y.heap.size 83 4 v' (ps.length + 1) (propR.flat ps ++ propR.enc q)) (hg : x.grownBy x2 pu.ownBlock) :
    InN l (ps ++ [q]) v' y (x2.setCell ⟨y.heap.size, 1, none⟩ v') := by
  have hb := box_grown h.box h.row (by decide) hg
  refine ⟨(h.below.grown hg h.below.size (fun j hj => (h.row.lt j hj).1)).setCell (Nat.le_refl _) _, by simpa using set_heap hb 1 v', ?_⟩
  rw [Rec.flat_app, Rec.flat_one, List.length_append]
  exact own_set hown hb (by decide) _ _
/-- The nodes that are copied. -/
structure NodesAt (B : Nat) (u : Value) (vs : List NdV) (ns : List Nd) (x : World) : Prop where
  row : x.ownsRow B 44 2 u vs.length (nodeR.flat vs)
  len : vs.length = ns.length
  each : ∀ i, i < ns.length → (vs.getD i NdV.none).l = (ns.getD i Nd.none).l ∧ x.ownsRow 0 83 4 (.slice (vs.getD i NdV.none).a (vs.getD i NdV.none).n (vs.getD i NdV.none).c) (ns.getD i Nd.none).ps.length (propR.flat (ns.getD i Nd.none).ps)
theorem NodesAt.step {B : Nat} {u : Value} {vs : List NdV} {ns : List Nd} {x z : World} (h : NodesAt B u vs ns x) (hB : Below x.heap.size x z) : NodesAt B u vs ns z :=
  ⟨owns_keep h.row hB, h.len, fun i hi => ⟨(h.each i hi).1, owns_keep (h.each i hi).2 hB⟩⟩
theorem NodesAt.set {B : Nat} {u : Value} {vs : List NdV} {ns : List Nd} {x : World} {b : Nat} {cs : Array Value} (h : NodesAt B u vs ns x) (hb : x.heap[b]? = some (.cells cs 25)) (j : Nat) (v : Value) : NodesAt B u vs ns (x.setCell ⟨b, j, none⟩ v) :=
  ⟨own_set h.row hb (by decide) _ _, h.len, fun i hi => ⟨(h.each i hi).1, own_set (h.each i hi).2 hb (by decide) _ _⟩⟩
theorem NodesAt.holds {B : Nat} {u : Value} {vs : List NdV} {ns : List Nd} {x : World} (h : NodesAt B u vs ns x) : HoldsN x u ns :=
  ⟨vs, holdsR_of_owns h.row, h.len, fun i hi => ⟨(h.each i hi).1, holdsR_of_owns (h.each i hi).2⟩⟩
theorem NodesAt.next {B : Nat} {u v' : Value} {vs : List NdV} {ns : List Nd} {x x2 : World} {l : ByteArray} {pa : Option Addr} {pn pc : Nat} {ps : List Pp} (h : NodesAt B u vs ns x) (hr : x.ownsRow 0 83 4 (.slice pa pn pc) ps.length (propR.flat ps))
    (hown : x2.ownsRow B 44 2 v' (vs.length + 1) (nodeR.flat vs ++ [.string l, .slice pa pn pc])) (hg : x.grownBy x2 u.ownBlock) : NodesAt B v' (vs ++ [NdV.mk l pa pn pc]) (ns ++ [Nd.mk l ps]) x2 := by
  refine ⟨by rw [Rec.flat_app, Rec.flat_one, List.length_append]; exact hown, by simp [h.len], fun i hi => ?_⟩
  by_cases hlt : i < ns.length
  · have e1 : (vs ++ [NdV.mk l pa pn pc]).getD i NdV.none = vs.getD i NdV.none := by simp [List.getD, List.getElem?_append_left (show i < vs.length by rw [h.len]; exact hlt)]
    have e2 : (ns ++ [Nd.mk l ps]).getD i Nd.none = ns.getD i Nd.none := by simp [List.getD, List.getElem?_append_left hlt]
    rw [e1, e2]
    exact ⟨(h.each i hlt).1, row_grown (h.each i hlt).2 h.row (by decide) hg⟩
  · have hi' : i = ns.length := by simp at hi; omega
    have e1 : (vs ++ [NdV.mk l pa pn pc]).getD i NdV.none = NdV.mk l pa pn pc := by simp [List.getD, hi', ← h.len]
    have e2 : (ns ++ [Nd.mk l ps]).getD i Nd.none = Nd.mk l ps := by simp [List.getD, hi']
    rw [e1, e2]
    exact ⟨rfl, row_grown hr h.row (by decide) hg⟩
theorem NodesAt.grown {B B2 : Nat} {u eu : Value} {vs : List NdV} {ns : List Nd} {x x2 : World} {n : Nat} {xs : List Value} (h : NodesAt B u vs ns x) (he : x.ownsRow B2 85 4 eu n xs) (hg : x.grownBy x2 eu.ownBlock) : NodesAt B u vs ns x2 :=
  ⟨row_grown h.row he (by decide) hg, h.len, fun i hi => ⟨(h.each i hi).1, row_grown (h.each i hi).2 he (by decide) hg⟩⟩
/-- The three boxes, and the nodes. -/
structure G1 (nv ev : Value) (vs : List NdV) (ns : List Nd) (u : Value) (w x : World) : Prop where
  below : Below w.heap.size w x
  b1 : x.heap[w.heap.size]? = some (.cells #[nv, ev] 25)
  b2 : x.heap[w.heap.size + 1]? = some (.cells #[.slice none 0 0, .slice none 0 0] 25)
  b3 : x.heap[w.heap.size + 2]? = some (.cells #[u, .slice none 0 0] 25)
  nodes : NodesAt w.heap.size u vs ns x
theorem G1.step {nv ev : Value} {vs : List NdV} {ns : List Nd} {u : Value} {w x z : World} (h : G1 nv ev vs ns u w x) (hB : Below x.heap.size x z) : G1 nv ev vs ns u w z :=
  ⟨h.below.trans (hB.mono h.below.size), box_below h.b1 hB, box_below h.b2 hB, box_below h.b3 hB, h.nodes.step hB⟩
theorem G1.next {nv ev : Value} {vs : List NdV} {ns : List Nd} {u v' : Value} {w x x2 : World} {l : ByteArray} {pa : Option Addr} {pn pc : Nat} {ps : List Pp} (h : G1 nv ev vs ns u w x) (hr : x.ownsRow 0 83 4 (.slice pa pn pc) ps.length (propR.flat ps))
    (hown : x2.ownsRow w.heap.size 44 2 v' (vs.length + 1) (nodeR.flat vs ++ [.string l, .slice pa pn pc])) (hg : x.grownBy x2 u.ownBlock) : G1 nv ev (vs ++ [NdV.mk l pa pn pc]) (ns ++ [Nd.mk l ps]) v' w (x2.setCell ⟨w.heap.size + 2, 0, none⟩ v') := by
  have hb1 := box_grown h.b1 h.nodes.row (by decide) hg
  have hb2 := box_grown h.b2 h.nodes.row (by decide) hg
  have hb3 := box_grown h.b3 h.nodes.row (by decide) hg
  exact ⟨(h.below.grown hg h.below.size (fun j hj => (h.nodes.row.lt j hj).1)).setCell (by simp) _, set_oth hb1 (by omega) _ _, set_oth hb2 (by omega) _ _, by simpa using set_heap hb3 0 v', (h.nodes.next hr hown hg).set hb3 _ _⟩
/-- The three boxes, the nodes, and the edges. -/
structure G2 (nv ev : Value) (vs : List NdV) (ns : List Nd) (u : Value) (es : List Eg) (eu : Value) (w x : World) : Prop where
  below : Below w.heap.size w x
  b1 : x.heap[w.heap.size]? = some (.cells #[nv, ev] 25)
  b2 : x.heap[w.heap.size + 1]? = some (.cells #[.slice none 0 0, .slice none 0 0] 25)
  b3 : x.heap[w.heap.size + 2]? = some (.cells #[u, eu] 25)
  nodes : NodesAt w.heap.size u vs ns x
  row : x.ownsRow w.heap.size 85 4 eu es.length (edgeR.flat es)
theorem G2.step {nv ev : Value} {vs : List NdV} {ns : List Nd} {u : Value} {es : List Eg} {eu : Value} {w x z : World} (h : G2 nv ev vs ns u es eu w x) (hB : Below x.heap.size x z) : G2 nv ev vs ns u es eu w z :=
  ⟨h.below.trans (hB.mono h.below.size), box_below h.b1 hB, box_below h.b2 hB, box_below h.b3 hB, h.nodes.step hB, owns_keep h.row hB⟩
theorem G2.next {nv ev : Value} {vs : List NdV} {ns : List Nd} {u : Value} {es : List Eg} {eu v' : Value} {w x x2 : World} {q : Eg} (h : G2 nv ev vs ns u es eu w x)
    (hown : x2.ownsRow w.heap.size 85 4 v' (es.length + 1) (edgeR.flat es ++ edgeR.enc q)) (hg : x.grownBy x2 eu.ownBlock) : G2 nv ev vs ns u (es ++ [q]) v' w (x2.setCell ⟨w.heap.size + 2, 1, none⟩ v') := by
  have hb1 := box_grown h.b1 h.row (by decide) hg
  have hb2 := box_grown h.b2 h.row (by decide) hg
  have hb3 := box_grown h.b3 h.row (by decide) hg
  refine ⟨(h.below.grown hg h.below.size (fun j hj => (h.row.lt j hj).1)).setCell (by simp) _, set_oth hb1 (by omega) _ _, set_oth hb2 (by omega) _ _, by simpa using set_heap hb3 1 v', (h.nodes.grown h.row hg).set hb3 _ _, ?_⟩
  rw [Rec.flat_app, Rec.flat_one, List.length_append]
  exact own_set hown hb3 (by decide) _ _
end Go.Proofs.Ytnmjhbnadfjapaa
