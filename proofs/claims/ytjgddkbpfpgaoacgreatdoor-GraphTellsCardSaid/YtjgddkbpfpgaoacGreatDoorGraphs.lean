/-
  CALLS THAT LEAVE WHAT LAY: what they hand on. No function is named here.
-/
import Derived.Test.YtjgddkbpfpgaoacGreatDoorSl
import Derived.Test.YtjgddkbpfpgaoacGreatDoorXCodeG
import Derived.ChangeSame
import Derived.ChangeArms
import Derived.Lib.SmallJoins
import Derived.Deep.Strs
namespace Go.Proofs.YtjgddkbpfpgaoacGreatDoor
open Go.ChangeShapes Go.WideShapes Go.ChangeAt Go.RowKit

theorem hidden {p : Prop} (h : p) : Hid p := h
theorem RowAt.calm {w w' : World} {a : Option Addr} {xs : List Value} (h : RowAt w a xs) (hc : GoX.Calm w w') : RowAt w' a xs := by
  rcases h with h | ⟨b, off, h1, h2, h3⟩
  · exact .inl h
  · refine .inr ⟨b, off, h1, Nat.lt_of_lt_of_le h2 hc.size, fun j u hj => ?_⟩
    have := h3 j u hj
    unfold World.cell? at this ⊢
    simp only at this ⊢
    rw [hc.block b h2]
    exact this
theorem Holds.calm {w w' : World} {v : Value} {xs : List Value} (h : Holds w v xs) (hc : GoX.Calm w w') : Holds w' v xs := by
  obtain ⟨a, cap, h1, h2⟩ := h
  exact ⟨a, cap, h1, h2.calm hc⟩
theorem calm_alloc (w : World) (o : Obj) : GoX.Calm w (w.alloc o) := .of_below ((Below.refl _ _).alloc (Nat.le_refl _) _)
theorem calm_set {w w' : World} (h : GoX.Calm w w') {b off : Nat} (hb : w.heap.size ≤ b) (v : Value) : GoX.Calm w (w'.setCell ⟨b, off, none⟩ v) := by
  have hk : ∀ k, k < w.heap.size → (w'.setCell ⟨b, off, none⟩ v).heap[k]? = w.heap[k]? := fun k hk => by
    have hne : b ≠ k := by omega
    rw [← h.block k hk]
    simp [World.setCell, Array.getElem?_modify, hne]
  refine ⟨⟨h.kept.1, h.kept.2.1, fun i hi => ?_⟩, fun a ha => ?_, by simpa [World.setCell] using h.size, hk⟩
  · rw [hk i hi]
    cases hx : w.heap[i]? with
    | none => rfl
    | some o =>
      cases o with
      | cells c t fr => exact ⟨rfl, rfl, rfl, fun _ _ => rfl⟩
      | map es clock => exact .inr ⟨rfl, rfl⟩
      | _ => rfl
  · unfold World.frozen?
    rw [hk a.block ha]
end Go.Proofs.YtjgddkbpfpgaoacGreatDoor
/-
  ROWS OF RECORDS: elements of some one-cell fields each. No function is named here.
-/
namespace Go.Proofs.YtjgddkbpfpgaoacGreatDoor
open Go.ChangeShapes Go.WideShapes Go.ChangeAt Go.RowKit

/-- How an element lies: its cells. -/
structure Rec (α : Type) where
  enc : α → List Value
  n : Nat
  pos : 0 < n
  len : ∀ x, (enc x).length = n
  one : ∀ x, ∀ u ∈ enc x, u.oneCell' = true
  dflt : α
variable {α : Type} {R : Rec α}
def Rec.flat (R : Rec α) (ps : List α) : List Value := ps.flatMap R.enc
theorem Rec.flat_nil : R.flat [] = [] := rfl
theorem Rec.flat_cons (x : α) (ps : List α) : R.flat (x :: ps) = R.enc x ++ R.flat ps := by simp [Rec.flat]
theorem Rec.flat_app (ps qs : List α) : R.flat (ps ++ qs) = R.flat ps ++ R.flat qs := by simp [Rec.flat]
theorem Rec.flat_one (x : α) : R.flat [x] = R.enc x := by simp [Rec.flat]
theorem Rec.flat_len : ∀ ps : List α, (R.flat ps).length = ps.length * R.n
  | [] => by simp [Rec.flat]
  | x :: ps => by rw [Rec.flat_cons, List.length_append, R.len, Rec.flat_len ps, List.length_cons, Nat.add_mul]; omega
theorem Rec.flat_one_cell (ps : List α) : ∀ u ∈ R.flat ps, u.oneCell' = true := fun u hu => by
  obtain ⟨x, _, h⟩ := List.mem_flatMap.1 hu
  exact R.one x u h
theorem Rec.flat_at : ∀ (ps : List α) (k j : Nat), k < ps.length → j < R.n → (R.flat ps)[k * R.n + j]? = (R.enc (ps.getD k R.dflt))[j]?
  | x :: ps, 0, j, _, hj => by
    rw [Rec.flat_cons, Nat.zero_mul, Nat.zero_add, List.getElem?_append_left (by rw [R.len]; exact hj)]
    rfl
  | x :: ps, k + 1, j, hk, hj => by
    have ih := Rec.flat_at ps k j (by simpa using hk) hj
    rw [Rec.flat_cons, List.getElem?_append_right (by rw [R.len, Nat.add_mul]; omega), R.len, show (k + 1) * R.n + j - R.n = k * R.n + j by rw [Nat.add_mul]; omega, ih]
    simp [List.getD]
/-- A slice whose elements are these, with its room. -/
def SlR (R : Rec α) (w : World) (v : Value) (ps : List α) : Prop := ∃ a cap, v = .slice a ps.length cap ∧ ps.length ≤ cap ∧ (a = none → cap = 0) ∧ (∀ x, a = some x → x.spot = none) ∧ RowAt w a (R.flat ps)
/-- The same, its room untold. -/
def HoldsR (R : Rec α) (w : World) (v : Value) (ps : List α) : Prop := ∃ a cap, v = .slice a ps.length cap ∧ RowAt w a (R.flat ps)
theorem SlR.holds {w : World} {v : Value} {ps : List α} (h : SlR R w v ps) : HoldsR R w v ps := by
  obtain ⟨a, cap, h1, _, _, _, h2⟩ := h; exact ⟨a, cap, h1, h2⟩
theorem SlR.calm {w w' : World} {v : Value} {ps : List α} (h : SlR R w v ps) (hb : GoX.Calm w w') : SlR R w' v ps := by
  obtain ⟨a, cap, h1, h2, h3, h4, h5⟩ := h
  exact ⟨a, cap, h1, h2, h3, h4, h5.calm hb⟩
theorem SlR.below {w w' : World} {v : Value} {ps : List α} (h : SlR R w v ps) (hb : Below w.heap.size w w') : SlR R w' v ps := h.calm (.of_below hb)
theorem HoldsR.calm {w w' : World} {v : Value} {ps : List α} (h : HoldsR R w v ps) (hb : GoX.Calm w w') : HoldsR R w' v ps := by
  obtain ⟨a, cap, h1, h2⟩ := h
  exact ⟨a, cap, h1, h2.calm hb⟩
theorem HoldsR.below {w w' : World} {v : Value} {ps : List α} (h : HoldsR R w v ps) (hb : Below w.heap.size w w') : HoldsR R w' v ps := h.calm (.of_below hb)
theorem slR_of_owns {w : World} {base : Nat} {e : TypeId} {v : Value} {ps : List α} (h : w.ownsRow base e R.n v ps.length (R.flat ps)) : SlR R w v ps := by
  obtain ⟨hl, h⟩ := h
  rcases h with ⟨h1, h2⟩ | ⟨g, cap, cur, rfl, hg, hcell, hn, hcm, hsz, htake⟩
  · exact ⟨none, 0, by rw [h1, h2], by omega, fun _ => rfl, fun _ e => (by cases e), .inl (by rw [List.eq_nil_of_length_eq_zero h2]; rfl)⟩
  · refine ⟨some ⟨g, 0, none⟩, cap, rfl, hn, fun e => (by cases e), fun _ e => (by cases e; rfl), .inr ⟨g, 0, rfl, (Array.getElem?_eq_some_iff.1 hcell).1, fun j u hj => ?_⟩⟩
    have hj' : j < (R.flat ps).length := (List.getElem?_eq_some_iff.1 hj).1
    rw [hl] at hj'
    rw [← htake, List.getElem?_take, if_pos hj'] at hj
    simp only [World.cell?, hcell, Nat.zero_add]
    simpa using hj
theorem holdsR_of_owns {w : World} {base : Nat} {e : TypeId} {v : Value} {ps : List α} (h : w.ownsRow base e R.n v ps.length (R.flat ps)) : HoldsR R w v ps := (slR_of_owns h).holds
theorem rec_at {w : World} {a : Option Addr} {ps : List α} (h : RowAt w a (R.flat ps)) {k : Nat} (hk : k < ps.length) :
    ∃ b off, a = some ⟨b, off, none⟩ ∧ b < w.heap.size ∧ ∀ j u, (R.enc (ps.getD k R.dflt))[j]? = some u → w.cell? ⟨b, off + k * R.n + j, none⟩ = some u := by
  rcases h with h0 | ⟨b, off, rfl, hb, hc⟩
  · have := congrArg List.length h0
    rw [Rec.flat_len] at this
    have hp := R.pos
    have : 0 < ps.length * R.n := Nat.mul_pos (by omega) hp
    simp only [List.length_nil] at *; omega
  · refine ⟨b, off, rfl, hb, fun j u hu => ?_⟩
    have hj : j < R.n := by have := (List.getElem?_eq_some_iff.1 hu).1; rwa [R.len] at this
    rw [Nat.add_assoc]
    exact hc _ _ ((Rec.flat_at ps k j hk hj).trans hu)
theorem take_snocR (ps : List α) (d : α) (k : Nat) (hk : k < ps.length) : ps.take (k + 1) = ps.take k ++ [ps.getD k d] := by
  rw [List.take_add_one, List.getElem?_eq_getElem hk]; simp [List.getD, hk]
/-- The cells of a new block. -/
theorem cells_new (w : World) (xs : List Value) (t : TypeId) : ∀ j x, xs[j]? = some x → (w.alloc (.cells xs.toArray t)).cell? ((⟨w.heap.size, 0, none⟩ : Addr).add j) = some x := fun j x hj => by
  rw [add_plain, Nat.zero_add]
  simp only [World.cell?, World.alloc, Array.getElem?_push_size]
  simpa using hj
/-- A slice cut from the front. -/
theorem RowAt.fromR {w : World} {a : Option Addr} {ps : List α} (h : RowAt w a (R.flat ps)) (k : Nat) (hk : k ≤ ps.length) : RowAt w (a.map (·.add (k * R.n))) (R.flat (ps.drop k)) := by
  have e : R.flat (ps.drop k) = (R.flat ps).drop (k * R.n) := by
    have h1 : R.flat ps = R.flat (ps.take k) ++ R.flat (ps.drop k) := by rw [← Rec.flat_app, List.take_append_drop]
    rw [h1, List.drop_left' (by rw [Rec.flat_len, List.length_take, Nat.min_eq_left hk])]
  rw [e]
  exact h.from _
theorem RowAt.toR {w : World} {a : Option Addr} {ps : List α} (h : RowAt w a (R.flat ps)) (k : Nat) (hk : k ≤ ps.length) : RowAt w a (R.flat (ps.take k)) := by
  have e : R.flat (ps.take k) = (R.flat ps).take (k * R.n) := by
    have h1 : R.flat ps = R.flat (ps.take k) ++ R.flat (ps.drop k) := by rw [← Rec.flat_app, List.take_append_drop]
    rw [h1, List.take_left' (by rw [Rec.flat_len, List.length_take, Nat.min_eq_left hk])]
  rw [e]
  exact h.to _
/-- Elements that came in. -/
theorem open_recs {H : Type} {enc : TypeId × Value → H} {P : Program} {w : World} {sp : Nat → Bool} {held : Bool} {t e : TypeId} {v : Value} {d : DataW H} {qs : List MemPlace} {r : Reach} {b0 : Nat} {ok : α → Prop}
    (ht : P.underlying t = some (.slice e)) (hc : P.cellsOf e = R.n) (hdec : ∀ fuel cs x, cs.length = R.n → DataW.trod enc P w 0 sp held fuel e cs = some x → ∃ p, cs = R.enc p ∧ ok p)
    (hval : Value.okWide P w r b0 t v) (h : DataW.Trod enc P w 0 sp held t v d qs) : ∃ ps : List α, ps.length ≤ maxLen ∧ HoldsR R w v ps ∧ ∀ p ∈ ps, ok p := by
  obtain ⟨a0, len, cap, rfl⟩ := okWide_slice ht hval
  obtain ⟨fuel, hf⟩ := h
  rcases DataW.trod_slice ht hf with ⟨hcs, _⟩ | ⟨a, len', cap', elems, rest, n, _, hcs, _, _, hl, hm, hlen, hel, _, _⟩
  · simp only [Value.cells, List.cons.injEq, Value.slice.injEq, and_true] at hcs
    obtain ⟨rfl, rfl, rfl⟩ := hcs
    exact ⟨[], by unfold maxLen; simp, ⟨none, 0, rfl, .inl rfl⟩, fun _ h => by cases h⟩
  · simp only [Value.cells, List.cons.injEq, Value.slice.injEq, and_true] at hcs
    obtain ⟨rfl, rfl, rfl⟩ := hcs
    have each : ∀ i, ∃ p : α, i < len → (∀ j u, (R.enc p)[j]? = some u → w.cell? ((a.add (i * R.n)).add j) = some u) ∧ ok p := by
      intro i
      by_cases hi : i < len
      · have hb := hel i hi
        rw [List.getElem?_eq_getElem (by omega), hc, Option.bind_eq_some_iff] at hb
        obtain ⟨cs', hcs', hy⟩ := hb
        obtain ⟨_, hcl, hcc⟩ := World.cells?_some hcs'
        obtain ⟨p, rfl, hp⟩ := hdec _ _ _ hcl hy
        exact ⟨p, fun _ => ⟨fun j u hu => by
          have hj := (List.getElem?_eq_some_iff.1 hu).1
          rw [R.len] at hj
          exact (hcc j hj).trans hu, hp⟩⟩
      · exact ⟨R.dflt, fun h => absurd h hi⟩
    obtain ⟨f, hf⟩ := Classical.skolem.1 each
    obtain ⟨b, off, o⟩ := a
    by_cases hz : len = 0
    · subst hz
      exact ⟨[], by unfold maxLen; simp, ⟨_, cap, rfl, .inl rfl⟩, fun _ h => by cases h⟩
    · have h0 : 0 < (R.enc (f 0)).length := by rw [R.len]; exact R.pos
      have hx := (hf 0 (by omega)).1 0 _ (List.getElem?_eq_getElem h0)
      obtain rfl : o = none := by
        cases o with
        | none => rfl
        | some u => exact absurd hx (by simp only [Addr.add, World.cell?]; split <;> simp)
      have hbs : b < w.heap.size := by
        rw [add_plain, add_plain] at hx
        exact World.block_lt_of_cell? w _ hx
      refine ⟨(List.range len).map f, by simp; omega, ⟨some ⟨b, off, none⟩, cap, by simp, .inr ⟨b, off, rfl, hbs, fun j u hj => ?_⟩⟩, fun p hp => ?_⟩
      · have hl := (List.getElem?_eq_some_iff.1 hj).1
        rw [Rec.flat_len, List.length_map, List.length_range] at hl
        have hn := R.pos
        have hk : j / R.n < len := Nat.div_lt_of_lt_mul (by rw [Nat.mul_comm]; exact hl)
        have hm' : j % R.n < R.n := Nat.mod_lt _ hn
        have e : j = j / R.n * R.n + j % R.n := by have := Nat.div_add_mod j R.n; rw [Nat.mul_comm] at this; omega
        rw [e, Rec.flat_at _ _ _ (by simpa using hk) hm'] at hj
        have e2 : ((List.range len).map f).getD (j / R.n) R.dflt = f (j / R.n) := by simp [List.getD, hk]
        rw [e2] at hj
        have := (hf (j / R.n) hk).1 _ _ hj
        rw [add_plain, add_plain, Nat.add_assoc, ← e] at this
        exact this
      · obtain ⟨i, hi, rfl⟩ := List.mem_map.1 hp
        exact (hf i (List.mem_range.1 hi)).2
end Go.Proofs.YtjgddkbpfpgaoacGreatDoor
/-
  GRAPHS IN MEMORY: what a graph's two slices hold; a graph that came in. No function is named here.
-/
namespace Go.Proofs.YtjgddkbpfpgaoacGreatDoor
open Go.ChangeShapes Go.WideShapes Go.ChangeAt Go.RowKit

/-- A property: its name, and its value's kind, number and text. -/
structure Pp where
  s : ByteArray
  k : Int
  n : Int
  t : ByteArray
def Pp.none : Pp := ⟨⟨#[]⟩, 0, 0, ⟨#[]⟩⟩
def propR : Rec Pp := ⟨fun x => [.string x.s, .int .i64 x.k, .int .i64 x.n, .string x.t], 4, by decide, fun _ => rfl, fun x u hu => by simp at hu; rcases hu with rfl | rfl | rfl | rfl <;> rfl, Pp.none⟩
def Pp.wf (x : Pp) : Prop := (Lit.int .i64 x.k).wf = true ∧ (Lit.int .i64 x.n).wf = true
/-- A node as it lies: its label, and where its properties are. -/
structure NdV where
  l : ByteArray
  a : Option Addr
  n : Nat
  c : Nat
def NdV.none : NdV := ⟨⟨#[]⟩, .none, 0, 0⟩
def nodeR : Rec NdV := ⟨fun x => [.string x.l, .slice x.a x.n x.c], 2, by decide, fun _ => rfl, fun x u hu => by simp at hu; rcases hu with rfl | rfl <;> rfl, NdV.none⟩
structure Eg where
  f : Int
  t : Int
  l : ByteArray
  w : Int
def Eg.none : Eg := ⟨0, 0, ⟨#[]⟩, 0⟩
def edgeR : Rec Eg := ⟨fun x => [.int .i64 x.f, .int .i64 x.t, .string x.l, .int .i64 x.w], 4, by decide, fun _ => rfl, fun x u hu => by simp at hu; rcases hu with rfl | rfl | rfl | rfl <;> rfl, Eg.none⟩
def Eg.wf (x : Eg) : Prop := (Lit.int .i64 x.f).wf = true ∧ (Lit.int .i64 x.t).wf = true ∧ (Lit.int .i64 x.w).wf = true
structure Nd where
  l : ByteArray
  ps : List Pp
def Nd.none : Nd := ⟨⟨#[]⟩, []⟩
def Nd.wf (x : Nd) : Prop := x.ps.length ≤ maxLen ∧ ∀ p ∈ x.ps, p.wf
structure Gr where
  ns : List Nd
  es : List Eg
def Gr.wf (g : Gr) : Prop := g.ns.length ≤ maxLen ∧ (∀ x ∈ g.ns, x.wf) ∧ g.es.length ≤ maxLen ∧ ∀ x ∈ g.es, x.wf
def PropsOf (w : World) (vs : List NdV) (ns : List Nd) : Prop := vs.length = ns.length ∧ ∀ i, i < ns.length → (vs.getD i NdV.none).l = (ns.getD i Nd.none).l ∧ HoldsR propR w (.slice (vs.getD i NdV.none).a (vs.getD i NdV.none).n (vs.getD i NdV.none).c) (ns.getD i Nd.none).ps
def HoldsN (w : World) (v : Value) (ns : List Nd) : Prop := ∃ vs, HoldsR nodeR w v vs ∧ PropsOf w vs ns
def HoldsG (w : World) (nv ev : Value) (g : Gr) : Prop := HoldsN w nv g.ns ∧ HoldsR edgeR w ev g.es
theorem PropsOf.calm {w w' : World} {vs : List NdV} {ns : List Nd} (h : PropsOf w vs ns) (hc : GoX.Calm w w') : PropsOf w' vs ns := ⟨h.1, fun i hi => ⟨(h.2 i hi).1, (h.2 i hi).2.calm hc⟩⟩
theorem HoldsN.calm {w w' : World} {v : Value} {ns : List Nd} (h : HoldsN w v ns) (hc : GoX.Calm w w') : HoldsN w' v ns := by
  obtain ⟨vs, h1, h2⟩ := h
  exact ⟨vs, h1.calm hc, h2.calm hc⟩
theorem HoldsG.calm {w w' : World} {nv ev : Value} {g : Gr} (h : HoldsG w nv ev g) (hc : GoX.Calm w w') : HoldsG w' nv ev g := ⟨h.1.calm hc, h.2.calm hc⟩
theorem HoldsG.below {w w' : World} {nv ev : Value} {g : Gr} (h : HoldsG w nv ev g) (hb : Below w.heap.size w w') : HoldsG w' nv ev g := h.calm (.of_below hb)
theorem HoldsN.slice {w : World} {v : Value} {ns : List Nd} (h : HoldsN w v ns) : ∃ a c, v = .slice a ns.length c := by
  obtain ⟨vs, ⟨a, c, rfl, _⟩, h2, _⟩ := h
  exact ⟨a, c, by rw [h2]⟩
/-- A node at its place. -/
theorem node_at {w : World} {a : Option Addr} {n c : Nat} {ns : List Nd} (h : HoldsN w (.slice a n c) ns) {k : Nat} (hk : k < ns.length) :
    ∃ b off pa pn pc, a = some ⟨b, off, none⟩ ∧ b < w.heap.size ∧ w.cell? ⟨b, off + k * 2, none⟩ = some (.string (ns.getD k Nd.none).l) ∧ w.cell? ⟨b, off + k * 2 + 1, none⟩ = some (.slice pa pn pc) ∧ HoldsR propR w (.slice pa pn pc) (ns.getD k Nd.none).ps := by
  obtain ⟨vs, ⟨a', c', he, hr⟩, h1, h2⟩ := h
  simp only [Value.slice.injEq] at he
  obtain ⟨rfl, _, _⟩ := he
  obtain ⟨b, off, rfl, hb, hc⟩ := rec_at hr (k := k) (by omega)
  obtain ⟨hl, hp⟩ := h2 k hk
  refine ⟨b, off, (vs.getD k NdV.none).a, (vs.getD k NdV.none).n, (vs.getD k NdV.none).c, rfl, hb, ?_, hc 1 _ rfl, hp⟩
  rw [← hl]
  exact hc 0 _ rfl
theorem prop_at {w : World} {a : Option Addr} {ps : List Pp} (h : RowAt w a (propR.flat ps)) {k : Nat} (hk : k < ps.length) :
    ∃ b off, a = some ⟨b, off, none⟩ ∧ b < w.heap.size ∧ w.cell? ⟨b, off + k * 4, none⟩ = some (.string (ps.getD k Pp.none).s) ∧ w.cell? ⟨b, off + k * 4 + 1, none⟩ = some (.int .i64 (ps.getD k Pp.none).k) ∧ w.cell? ⟨b, off + k * 4 + 2, none⟩ = some (.int .i64 (ps.getD k Pp.none).n) ∧ w.cell? ⟨b, off + k * 4 + 3, none⟩ = some (.string (ps.getD k Pp.none).t) := by
  obtain ⟨b, off, h1, h2, h3⟩ := rec_at h hk
  exact ⟨b, off, h1, h2, h3 0 _ rfl, h3 1 _ rfl, h3 2 _ rfl, h3 3 _ rfl⟩
theorem edge_at {w : World} {a : Option Addr} {ps : List Eg} (h : RowAt w a (edgeR.flat ps)) {k : Nat} (hk : k < ps.length) :
    ∃ b off, a = some ⟨b, off, none⟩ ∧ b < w.heap.size ∧ w.cell? ⟨b, off + k * 4, none⟩ = some (.int .i64 (ps.getD k Eg.none).f) ∧ w.cell? ⟨b, off + k * 4 + 1, none⟩ = some (.int .i64 (ps.getD k Eg.none).t) ∧ w.cell? ⟨b, off + k * 4 + 2, none⟩ = some (.string (ps.getD k Eg.none).l) ∧ w.cell? ⟨b, off + k * 4 + 3, none⟩ = some (.int .i64 (ps.getD k Eg.none).w) := by
  obtain ⟨b, off, h1, h2, h3⟩ := rec_at h hk
  exact ⟨b, off, h1, h2, h3 0 _ rfl, h3 1 _ rfl, h3 2 _ rfl, h3 3 _ rfl⟩
/-- Elements of a slice that lies in what came in. -/
theorem open_recsc {α : Type} {R : Rec α} {H : Type} {enc : TypeId × Value → H} {P : Program} {w : World} {sp : Nat → Bool} {held : Bool} {st e : TypeId} {v : Value} {fuel : Nat} {x : DataW H × List MemPlace} {ok : α → Prop}
    (hst : P.underlying st = some (.slice e)) (hc : P.cellsOf e = R.n) (hdec : ∀ fuel cs x, cs.length = R.n → DataW.trod enc P w 0 sp held fuel e cs = some x → ∃ p, cs = R.enc p ∧ ok p)
    (hf : DataW.trod enc P w 0 sp held fuel st [v] = some x) : ∃ (ps : List α) (a : Option Addr) (c : Nat), v = .slice a ps.length c ∧ ps.length ≤ maxLen ∧ HoldsR R w v ps ∧ ∀ p ∈ ps, ok p := by
  rcases DataW.trod_slice hst hf with ⟨hcs, _⟩ | ⟨a, len, cap, elems, rest, n, _, hcs, _, _, hl, hm, hlen, hel, _, _⟩
  · simp only [List.cons.injEq, and_true] at hcs
    subst hcs
    exact ⟨[], .none, 0, rfl, by unfold maxLen; simp, ⟨.none, 0, rfl, .inl rfl⟩, fun _ h => by cases h⟩
  · simp only [List.cons.injEq, and_true] at hcs
    subst hcs
    have each : ∀ i, ∃ p : α, i < len → (∀ j u, (R.enc p)[j]? = some u → w.cell? ((a.add (i * R.n)).add j) = some u) ∧ ok p := by
      intro i
      by_cases hi : i < len
      · have hb := hel i hi
        rw [List.getElem?_eq_getElem (by omega), hc, Option.bind_eq_some_iff] at hb
        obtain ⟨cs', hcs', hy⟩ := hb
        obtain ⟨_, hcl, hcc⟩ := World.cells?_some hcs'
        obtain ⟨p, rfl, hp⟩ := hdec _ _ _ hcl hy
        exact ⟨p, fun _ => ⟨fun j u hu => by
          have hj := (List.getElem?_eq_some_iff.1 hu).1
          rw [R.len] at hj
          exact (hcc j hj).trans hu, hp⟩⟩
      · exact ⟨R.dflt, fun h => absurd h hi⟩
    obtain ⟨f, hf⟩ := Classical.skolem.1 each
    obtain ⟨b, off, o⟩ := a
    by_cases hz : len = 0
    · subst hz
      exact ⟨[], _, cap, rfl, by unfold maxLen; simp, ⟨_, cap, rfl, .inl rfl⟩, fun _ h => by cases h⟩
    · have h0 : 0 < (R.enc (f 0)).length := by rw [R.len]; exact R.pos
      have hx := (hf 0 (by omega)).1 0 _ (List.getElem?_eq_getElem h0)
      obtain rfl : o = .none := by
        cases o with
        | none => rfl
        | some u => exact absurd hx (by simp only [Addr.add, World.cell?]; split <;> simp)
      have hbs : b < w.heap.size := by
        rw [add_plain, add_plain] at hx
        exact World.block_lt_of_cell? w _ hx
      refine ⟨(List.range len).map f, _, cap, by simp; rfl, by simp; omega, ⟨some ⟨b, off, .none⟩, cap, by simp, .inr ⟨b, off, rfl, hbs, fun j u hj => ?_⟩⟩, fun p hp => ?_⟩
      · have hl := (List.getElem?_eq_some_iff.1 hj).1
        rw [Rec.flat_len, List.length_map, List.length_range] at hl
        have hn := R.pos
        have hk : j / R.n < len := Nat.div_lt_of_lt_mul (by rw [Nat.mul_comm]; exact hl)
        have hm' : j % R.n < R.n := Nat.mod_lt _ hn
        have e : j = j / R.n * R.n + j % R.n := by have := Nat.div_add_mod j R.n; rw [Nat.mul_comm] at this; omega
        rw [e, Rec.flat_at _ _ _ (by simpa using hk) hm'] at hj
        have e2 : ((List.range len).map f).getD (j / R.n) R.dflt = f (j / R.n) := by simp [List.getD, hk]
        rw [e2] at hj
        have := (hf (j / R.n) hk).1 _ _ hj
        rw [add_plain, add_plain, Nat.add_assoc, ← e] at this
        exact this
      · obtain ⟨i, hi, rfl⟩ := List.mem_map.1 hp
        exact (hf i (List.mem_range.1 hi)).2
/-- A graph that came in. -/
theorem open_graph {H : Type} {enc : TypeId × Value → H} {P : Program} {w : World} {sp : Nat → Bool} {held : Bool} {t tn te tp : TypeId} {f0 f1 n0 n1 p0 p1 v0 v1 v2 e0 e1 e2 e3 : Field} {v : Value} {d : DataW H} {qs : List MemPlace} {r : Reach} {b0 : Nat}
    (ht : P.underlying t = some (.struct #[f0, f1])) (hs0 : P.underlying f0.type = some (.slice tn)) (hs1 : P.underlying f1.type = some (.slice te)) (hn : P.underlying tn = some (.struct #[n0, n1])) (hsp : P.underlying n1.type = some (.slice tp))
    (hp : P.underlying tp = some (.struct #[p0, p1])) (hv : P.underlying p1.type = some (.struct #[v0, v1, v2])) (he : P.underlying te = some (.struct #[e0, e1, e2, e3]))
    (i0 : P.underlying n0.type = some .string) (i1 : P.underlying p0.type = some .string) (i2 : P.underlying v0.type = some (.int .i64)) (i3 : P.underlying v1.type = some (.int .i64)) (i4 : P.underlying v2.type = some .string)
    (j0 : P.underlying e0.type = some (.int .i64)) (j1 : P.underlying e1.type = some (.int .i64)) (j2 : P.underlying e2.type = some .string) (j3 : P.underlying e3.type = some (.int .i64))
    (hagg : (match P.underlying t with | some (.struct _) | some (.array _ _) => true | _ => false) = true) (hc : P.cellsOf t = 2) (hcn : P.cellsOf tn = 2) (hcp : P.cellsOf tp = 4) (hce : P.cellsOf te = 4)
    (o0 : f0.offset = 0) (o1 : f1.offset = 1) (c0 : P.cellsOf f0.type = 1) (c1 : P.cellsOf f1.type = 1) (q0 : n0.offset = 0) (q1 : n1.offset = 1) (d0 : P.cellsOf n0.type = 1) (d1 : P.cellsOf n1.type = 1)
    (s0 : p0.offset = 0) (s1 : p1.offset = 1) (x0 : P.cellsOf p0.type = 1) (x1 : P.cellsOf p1.type = 3) (u0 : v0.offset = 0) (u1 : v1.offset = 1) (u2 : v2.offset = 2) (y0 : P.cellsOf v0.type = 1) (y1 : P.cellsOf v1.type = 1) (y2 : P.cellsOf v2.type = 1)
    (w0 : e0.offset = 0) (w1 : e1.offset = 1) (w2 : e2.offset = 2) (w3 : e3.offset = 3) (z0 : P.cellsOf e0.type = 1) (z1 : P.cellsOf e1.type = 1) (z2 : P.cellsOf e2.type = 1) (z3 : P.cellsOf e3.type = 1)
    (hval : Value.okWide P w r b0 t v) (h : DataW.Trod enc P w 0 sp held t v d qs) : ∃ (g : Gr) (nv ev : Value), v = .agg #[nv, ev] ∧ HoldsG w nv ev g ∧ g.wf := by
  obtain ⟨l, hl, rfl, _⟩ := GoX.arg_agg hagg hc hval
  obtain ⟨fuel, hf⟩ := h
  match l, hl with
  | [nv, ev], _ =>
    obtain ⟨_, _, _, _, _, g0, g1⟩ := trod_struct2 ht (show DataW.trod enc P w 0 sp held fuel t [nv, ev] = some _ from hf)
    rw [o0, c0] at g0
    rw [o1, c1] at g1
    have hdp : ∀ fuel cs x, cs.length = propR.n → DataW.trod enc P w 0 sp held fuel tp cs = some x → ∃ p, cs = propR.enc p ∧ Pp.wf p := fun fuel cs x hl hx => by
      match cs, hl with
      | [a0, a1, a2, a3], _ =>
        obtain ⟨_, _, _, _, _, r0, r1⟩ := trod_struct2 hp hx
        rw [s0, x0] at r0
        rw [s1, x1] at r1
        obtain ⟨_, _, _, _, _, _, k0, k1, k2⟩ := Go.Deep.trod_struct3 hv r1
        rw [u0, y0] at k0
        rw [u1, y1] at k1
        rw [u2, y2] at k2
        obtain ⟨m0, b0, _, _⟩ := DataW.trod_string i1 r0
        obtain ⟨m1, b1, _, t1⟩ := DataW.trod_int i2 k0
        obtain ⟨m2, b2, _, t2⟩ := DataW.trod_int i3 k1
        obtain ⟨m3, b3, _, _⟩ := DataW.trod_string i4 k2
        simp only [List.drop_zero, List.take_succ_cons, List.take_zero, List.cons.injEq, and_true, List.drop_succ_cons] at b0 b1 b2 b3
        subst b0 b1 b2 b3
        exact ⟨⟨m0, m1, m2, m3⟩, rfl, t1, t2⟩
    have hdn : ∀ fuel cs x, cs.length = nodeR.n → DataW.trod enc P w 0 sp held fuel tn cs = some x → ∃ p : NdV, cs = nodeR.enc p ∧ ∃ ps : List Pp, HoldsR propR w (.slice p.a p.n p.c) ps ∧ ps.length ≤ maxLen ∧ ∀ q ∈ ps, q.wf := fun fuel cs x hl hx => by
      match cs, hl with
      | [a0, a1], _ =>
        obtain ⟨_, _, _, _, _, r0, r1⟩ := trod_struct2 hn hx
        rw [q0, d0] at r0
        rw [q1, d1] at r1
        obtain ⟨m0, b0, _, _⟩ := DataW.trod_string i0 r0
        obtain ⟨ps, a, c, b1, hm, hh, hw⟩ := open_recsc (R := propR) (ok := Pp.wf) hsp hcp hdp (show DataW.trod enc P w 0 sp held _ n1.type [a1] = some _ by simpa using r1)
        simp only [List.drop_zero, List.take_succ_cons, List.take_zero, List.cons.injEq, and_true] at b0
        subst b0
        subst b1
        exact ⟨⟨m0, a, ps.length, c⟩, rfl, ps, hh, hm, hw⟩
    have hde : ∀ fuel cs x, cs.length = edgeR.n → DataW.trod enc P w 0 sp held fuel te cs = some x → ∃ p, cs = edgeR.enc p ∧ Eg.wf p := fun fuel cs x hl hx => by
      match cs, hl with
      | [a0, a1, a2, a3], _ =>
        obtain ⟨_, _, _, _, _, _, _, r0, r1, r2, r3⟩ := Go.Joins.trod_struct4 he hx
        rw [w0, z0] at r0
        rw [w1, z1] at r1
        rw [w2, z2] at r2
        rw [w3, z3] at r3
        obtain ⟨m0, b0, _, t0⟩ := DataW.trod_int j0 r0
        obtain ⟨m1, b1, _, t1⟩ := DataW.trod_int j1 r1
        obtain ⟨m2, b2, _, _⟩ := DataW.trod_string j2 r2
        obtain ⟨m3, b3, _, t3⟩ := DataW.trod_int j3 r3
        simp only [List.drop_zero, List.take_succ_cons, List.take_zero, List.cons.injEq, and_true, List.drop_succ_cons] at b0 b1 b2 b3
        subst b0 b1 b2 b3
        exact ⟨⟨m0, m1, m2, m3⟩, rfl, t0, t1, t3⟩
    obtain ⟨es, ea, ec, rfl, hem, heh, hew⟩ := open_recsc (R := edgeR) (ok := Eg.wf) hs1 hce hde (show DataW.trod enc P w 0 sp held _ f1.type [ev] = some _ by simpa using g1)
    obtain ⟨vs, na, nc, rfl, hnm, hnh, hnw⟩ := open_recsc (R := nodeR) hs0 hcn hdn (show DataW.trod enc P w 0 sp held _ f0.type [nv] = some _ by simpa using g0)
    have hch : ∀ p : NdV, ∃ ps : List Pp, p ∈ vs → HoldsR propR w (.slice p.a p.n p.c) ps ∧ ps.length ≤ maxLen ∧ ∀ q ∈ ps, q.wf := fun p => by
      by_cases hp : p ∈ vs
      · obtain ⟨ps, h1, h2, h3⟩ := hnw p hp
        exact ⟨ps, fun _ => ⟨h1, h2, h3⟩⟩
      · exact ⟨[], fun h => absurd h hp⟩
    obtain ⟨f, hf⟩ := Classical.skolem.1 hch
    refine ⟨⟨vs.map fun p => ⟨p.l, f p⟩, es⟩, _, _, rfl, ⟨⟨vs, hnh, by simp, fun i hi => ?_⟩, heh⟩, by simpa using hnm, fun x hx => ?_, hem, hew⟩
    · have hi' : i < vs.length := by simpa using hi
      have e1 : vs.getD i NdV.none = vs[i] := by simp [List.getD, hi']
      have e2 : (vs.map fun p : NdV => (⟨p.l, f p⟩ : Nd)).getD i Nd.none = ⟨vs[i].l, f vs[i]⟩ := by simp [List.getD, hi']
      show _ = ((vs.map fun p : NdV => (⟨p.l, f p⟩ : Nd)).getD i Nd.none).l ∧ HoldsR propR w _ ((vs.map fun p : NdV => (⟨p.l, f p⟩ : Nd)).getD i Nd.none).ps
      rw [e1, e2]
      exact ⟨rfl, (hf vs[i] (List.getElem_mem _)).1⟩
    · obtain ⟨p, hp, rfl⟩ := List.mem_map.1 hx
      exact ⟨(hf p hp).2.1, (hf p hp).2.2⟩
end Go.Proofs.YtjgddkbpfpgaoacGreatDoor
