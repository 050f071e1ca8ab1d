/-
  CALLS THAT LEAVE WHAT LAY: what they hand on. No function is named here.
-/
import Derived.Test.YtfdbedeidcaonabDoorSl
import Derived.Test.YtfdbedeidcaonabDoorXCodeG
import Derived.ChangeSame
import Derived.ChangeArms
import Derived.Lib.SmallJoins
import Derived.Deep.Strs
namespace Go.Proofs.YtfdbedeidcaonabDoor
open Go.ChangeShapes Go.WideShapes Go.ChangeAt Go.RowKit

theorem hidden {p : Prop} (h : p) : Hid p := h
theorem RowAt.calm {w w' : World} {a : Option Addr} {xs : List Value} (h : RowAt w a xs) (hc : GoX.Calm w w') : RowAt w' a xs := by
  rcases h with h | ⟨b, off, h1, h2, h3⟩
  · exact .inl h
  · refine .inr ⟨b, off, h1, Nat.lt_of_lt_of_le h2 hc.size, fun j u hj => ?_⟩
    have := h3 j u hj
    unfold World.cell? at this ⊢
    simp only at this ⊢
    rw [hc.block b h2]
    exact this
theorem Holds.calm {w w' : World} {v : Value} {xs : List Value} (h : Holds w v xs) (hc : GoX.Calm w w') : Holds w' v xs := by
  obtain ⟨a, cap, h1, h2⟩ := h
  exact ⟨a, cap, h1, h2.calm hc⟩
theorem calm_alloc (w : World) (o : Obj) : GoX.Calm w (w.alloc o) := .of_below ((Below.refl _ _).alloc (Nat.le_refl _) _)
theorem calm_set {w w' : World} (h : GoX.Calm w w') {b off : Nat} (hb : w.heap.size ≤ b) (v : Value) : GoX.Calm w (w'.setCell ⟨b, off, none⟩ v) := by
  have hk : ∀ k, k < w.heap.size → (w'.setCell ⟨b, off, none⟩ v).heap[k]? = w.heap[k]? := fun k hk => by
    have hne : b ≠ k := by omega
    rw [← h.block k hk]
    simp [World.setCell, Array.getElem?_modify, hne]
  refine ⟨⟨h.kept.1, h.kept.2.1, fun i hi => ?_⟩, fun a ha => ?_, by simpa [World.setCell] using h.size, hk⟩
  · rw [hk i hi]
    cases hx : w.heap[i]? with
    | none => rfl
    | some o =>
      cases o with
      | cells c t fr => exact ⟨rfl, rfl, rfl, fun _ _ => rfl⟩
      | map es clock => exact .inr ⟨rfl, rfl⟩
      | _ => rfl
  · unfold World.frozen?
    rw [hk a.block ha]
end Go.Proofs.YtfdbedeidcaonabDoor
/-
  ROWS OF RECORDS: elements of some one-cell fields each. No function is named here.
-/
namespace Go.Proofs.YtfdbedeidcaonabDoor
open Go.ChangeShapes Go.WideShapes Go.ChangeAt Go.RowKit

/-- How an element lies: its cells. -/
structure Rec (α : Type) where
  enc : α → List Value
  n : Nat
  pos : 0 < n
  len : ∀ x, (enc x).length = n
  one : ∀ x, ∀ u ∈ enc x, u.oneCell' = true
  dflt : α
variable {α : Type} {R : Rec α}
def Rec.flat (R : Rec α) (ps : List α) : List Value := ps.flatMap R.enc
theorem Rec.flat_nil : R.flat [] = [] := rfl
theorem Rec.flat_cons (x : α) (ps : List α) : R.flat (x :: ps) = R.enc x ++ R.flat ps := by simp [Rec.flat]
theorem Rec.flat_app (ps qs : List α) : R.flat (ps ++ qs) = R.flat ps ++ R.flat qs := by simp [Rec.flat]
theorem Rec.flat_one (x : α) : R.flat [x] = R.enc x := by simp [Rec.flat]
theorem Rec.flat_len : ∀ ps : List α, (R.flat ps).length = ps.length * R.n
  | [] => by simp [Rec.flat]
  | x :: ps => by rw [Rec.flat_cons, List.length_append, R.len, Rec.flat_len ps, List.length_cons, Nat.add_mul]; omega
theorem Rec.flat_one_cell (ps : List α) : ∀ u ∈ R.flat ps, u.oneCell' = true := fun u hu => by
  obtain ⟨x, _, h⟩ := List.mem_flatMap.1 hu
  exact R.one x u h
theorem Rec.flat_at : ∀ (ps : List α) (k j : Nat), k < ps.length → j < R.n → (R.flat ps)[k * R.n + j]? = (R.enc (ps.getD k R.dflt))[j]?
  | x :: ps, 0, j, _, hj => by
    rw [Rec.flat_cons, Nat.zero_mul, Nat.zero_add, List.getElem?_append_left (by rw [R.len]; exact hj)]
    rfl
  | x :: ps, k + 1, j, hk, hj => by
    have ih := Rec.flat_at ps k j (by simpa using hk) hj
    rw [Rec.flat_cons, List.getElem?_append_right (by rw [R.len, Nat.add_mul]; omega), R.len, show (k + 1) * R.n + j - R.n = k * R.n + j by rw [Nat.add_mul]; omega, ih]
    simp [List.getD]
/-- A slice whose elements are these, with its room. -/
def SlR (R : Rec α) (w : World) (v : Value) (ps : List α) : Prop := ∃ a cap, v = .slice a ps.length cap ∧ ps.length ≤ cap ∧ (a = none → cap = 0) ∧ (∀ x, a = some x → x.spot = none) ∧ RowAt w a (R.flat ps)
/-- The same, its room untold. -/
def HoldsR (R : Rec α) (w : World) (v : Value) (ps : List α) : Prop := ∃ a cap, v = .slice a ps.length cap ∧ RowAt w a (R.flat ps)
theorem SlR.holds {w : World} {v : Value} {ps : List α} (h : SlR R w v ps) : HoldsR R w v ps := by
  obtain ⟨a, cap, h1, _, _, _, h2⟩ := h; exact ⟨a, cap, h1, h2⟩
theorem SlR.calm {w w' : World} {v : Value} {ps : List α} (h : SlR R w v ps) (hb : GoX.Calm w w') : SlR R w' v ps := by
  obtain ⟨a, cap, h1, h2, h3, h4, h5⟩ := h
  exact ⟨a, cap, h1, h2, h3, h4, h5.calm hb⟩
theorem SlR.below {w w' : World} {v : Value} {ps : List α} (h : SlR R w v ps) (hb : Below w.heap.size w w') : SlR R w' v ps := h.calm (.of_below hb)
theorem HoldsR.calm {w w' : World} {v : Value} {ps : List α} (h : HoldsR R w v ps) (hb : GoX.Calm w w') : HoldsR R w' v ps := by
  obtain ⟨a, cap, h1, h2⟩ := h
  exact ⟨a, cap, h1, h2.calm hb⟩
theorem HoldsR.below {w w' : World} {v : Value} {ps : List α} (h : HoldsR R w v ps) (hb : Below w.heap.size w w') : HoldsR R w' v ps := h.calm (.of_below hb)
theorem slR_of_owns {w : World} {base : Nat} {e : TypeId} {v : Value} {ps : List α} (h : w.ownsRow base e R.n v ps.length (R.flat ps)) : SlR R w v ps := by
  obtain ⟨hl, h⟩ := h
  rcases h with ⟨h1, h2⟩ | ⟨g, cap, cur, rfl, hg, hcell, hn, hcm, hsz, htake⟩
  · exact ⟨none, 0, by rw [h1, h2], by omega, fun _ => rfl, fun _ e => (by cases e), .inl (by rw [List.eq_nil_of_length_eq_zero h2]; rfl)⟩
  · refine ⟨some ⟨g, 0, none⟩, cap, rfl, hn, fun e => (by cases e), fun _ e => (by cases e; rfl), .inr ⟨g, 0, rfl, (Array.getElem?_eq_some_iff.1 hcell).1, fun j u hj => ?_⟩⟩
    have hj' : j < (R.flat ps).length := (List.getElem?_eq_some_iff.1 hj).1
    rw [hl] at hj'
    rw [← htake, List.getElem?_take, if_pos hj'] at hj
    simp only [World.cell?, hcell, Nat.zero_add]
    simpa using hj
theorem holdsR_of_owns {w : World} {base : Nat} {e : TypeId} {v : Value} {ps : List α} (h : w.ownsRow base e R.n v ps.length (R.flat ps)) : HoldsR R w v ps := (slR_of_owns h).holds
theorem rec_at {w : World} {a : Option Addr} {ps : List α} (h : RowAt w a (R.flat ps)) {k : Nat} (hk : k < ps.length) :
    ∃ b off, a = some ⟨b, off, none⟩ ∧ b < w.heap.size ∧ ∀ j u, (R.enc (ps.getD k R.dflt))[j]? = some u → w.cell? ⟨b, off + k * R.n + j, none⟩ = some u := by
  rcases h with h0 | ⟨b, off, rfl, hb, hc⟩
  · have := congrArg List.length h0
    rw [Rec.flat_len] at this
    have hp := R.pos
    have : 0 < ps.length * R.n := Nat.mul_pos (by omega) hp
    simp only [List.length_nil] at *; omega
  · refine ⟨b, off, rfl, hb, fun j u hu => ?_⟩
    have hj : j < R.n := by have := (List.getElem?_eq_some_iff.1 hu).1; rwa [R.len] at this
    rw [Nat.add_assoc]
    exact hc _ _ ((Rec.flat_at ps k j hk hj).trans hu)
theorem take_snocR (ps : List α) (d : α) (k : Nat) (hk : k < ps.length) : ps.take (k + 1) = ps.take k ++ [ps.getD k d] := by
  rw [List.take_add_one, List.getElem?_eq_getElem hk]; simp [List.getD, hk]
/-- The cells of a new block. -/
theorem cells_new (w : World) (xs : List Value) (t : TypeId) : ∀ j x, xs[j]? = some x → (w.alloc (.cells xs.toArray t)).cell? ((⟨w.heap.size, 0, none⟩ : Addr).add j) = some x := fun j x hj => by
  rw [add_plain, Nat.zero_add]
  simp only [World.cell?, World.alloc, Array.getElem?_push_size]
  simpa using hj
/-- A slice cut from the front. -/
theorem RowAt.fromR {w : World} {a : Option Addr} {ps : List α} (h : RowAt w a (R.flat ps)) (k : Nat) (hk : k ≤ ps.length) : RowAt w (a.map (·.add (k * R.n))) (R.flat (ps.drop k)) := by
  have e : R.flat (ps.drop k) = (R.flat ps).drop (k * R.n) := by
    have h1 : R.flat ps = R.flat (ps.take k) ++ R.flat (ps.drop k) := by rw [← Rec.flat_app, List.take_append_drop]
    rw [h1, List.drop_left' (by rw [Rec.flat_len, List.length_take, Nat.min_eq_left hk])]
  rw [e]
  exact h.from _
theorem RowAt.toR {w : World} {a : Option Addr} {ps : List α} (h : RowAt w a (R.flat ps)) (k : Nat) (hk : k ≤ ps.length) : RowAt w a (R.flat (ps.take k)) := by
  have e : R.flat (ps.take k) = (R.flat ps).take (k * R.n) := by
    have h1 : R.flat ps = R.flat (ps.take k) ++ R.flat (ps.drop k) := by rw [← Rec.flat_app, List.take_append_drop]
    rw [h1, List.take_left' (by rw [Rec.flat_len, List.length_take, Nat.min_eq_left hk])]
  rw [e]
  exact h.to _
/-- Elements that came in. -/
theorem open_recs {H : Type} {enc : TypeId × Value → H} {P : Program} {w : World} {sp : Nat → Bool} {held : Bool} {t e : TypeId} {v : Value} {d : DataW H} {qs : List MemPlace} {r : Reach} {b0 : Nat} {ok : α → Prop}
    (ht : P.underlying t = some (.slice e)) (hc : P.cellsOf e = R.n) (hdec : ∀ fuel cs x, cs.length = R.n → DataW.trod enc P w 0 sp held fuel e cs = some x → ∃ p, cs = R.enc p ∧ ok p)
    (hval : Value.okWide P w r b0 t v) (h : DataW.Trod enc P w 0 sp held t v d qs) : ∃ ps : List α, ps.length ≤ maxLen ∧ HoldsR R w v ps ∧ ∀ p ∈ ps, ok p := by
  obtain ⟨a0, len, cap, rfl⟩ := okWide_slice ht hval
  obtain ⟨fuel, hf⟩ := h
  rcases DataW.trod_slice ht hf with ⟨hcs, _⟩ | ⟨a, len', cap', elems, rest, n, _, hcs, _, _, hl, hm, hlen, hel, _, _⟩
  · simp only [Value.cells, List.cons.injEq, Value.slice.injEq, and_true] at hcs
    obtain ⟨rfl, rfl, rfl⟩ := hcs
    exact ⟨[], by unfold maxLen; simp, ⟨none, 0, rfl, .inl rfl⟩, fun _ h => by cases h⟩
  · simp only [Value.cells, List.cons.injEq, Value.slice.injEq, and_true] at hcs
    obtain ⟨rfl, rfl, rfl⟩ := hcs
    have each : ∀ i, ∃ p : α, i < len → (∀ j u, (R.enc p)[j]? = some u → w.cell? ((a.add (i * R.n)).add j) = some u) ∧ ok p := by
      intro i
      by_cases hi : i < len
      · have hb := hel i hi
        rw [List.getElem?_eq_getElem (by omega), hc, Option.bind_eq_some_iff] at hb
        obtain ⟨cs', hcs', hy⟩ := hb
        obtain ⟨_, hcl, hcc⟩ := World.cells?_some hcs'
        obtain ⟨p, rfl, hp⟩ := hdec _ _ _ hcl hy
        exact ⟨p, fun _ => ⟨fun j u hu => by
          have hj := (List.getElem?_eq_some_iff.1 hu).1
          rw [R.len] at hj
          exact (hcc j hj).trans hu, hp⟩⟩
      · exact ⟨R.dflt, fun h => absurd h hi⟩
    obtain ⟨f, hf⟩ := Classical.skolem.1 each
    obtain ⟨b, off, o⟩ := a
    by_cases hz : len = 0
    · subst hz
      exact ⟨[], by unfold maxLen; simp, ⟨_, cap, rfl, .inl rfl⟩, fun _ h => by cases h⟩
    · have h0 : 0 < (R.enc (f 0)).length := by rw [R.len]; exact R.pos
      have hx := (hf 0 (by omega)).1 0 _ (List.getElem?_eq_getElem h0)
      obtain rfl : o = none := by
        cases o with
        | none => rfl
        | some u => exact absurd hx (by simp only [Addr.add, World.cell?]; split <;> simp)
      have hbs : b < w.heap.size := by
        rw [add_plain, add_plain] at hx
        exact World.block_lt_of_cell? w _ hx
      refine ⟨(List.range len).map f, by simp; omega, ⟨some ⟨b, off, none⟩, cap, by simp, .inr ⟨b, off, rfl, hbs, fun j u hj => ?_⟩⟩, fun p hp => ?_⟩
      · have hl := (List.getElem?_eq_some_iff.1 hj).1
        rw [Rec.flat_len, List.length_map, List.length_range] at hl
        have hn := R.pos
        have hk : j / R.n < len := Nat.div_lt_of_lt_mul (by rw [Nat.mul_comm]; exact hl)
        have hm' : j % R.n < R.n := Nat.mod_lt _ hn
        have e : j = j / R.n * R.n + j % R.n := by have := Nat.div_add_mod j R.n; rw [Nat.mul_comm] at this; omega
        rw [e, Rec.flat_at _ _ _ (by simpa using hk) hm'] at hj
        have e2 : ((List.range len).map f).getD (j / R.n) R.dflt = f (j / R.n) := by simp [List.getD, hk]
        rw [e2] at hj
        have := (hf (j / R.n) hk).1 _ _ hj
        rw [add_plain, add_plain, Nat.add_assoc, ← e] at this
        exact this
      · obtain ⟨i, hi, rfl⟩ := List.mem_map.1 hp
        exact (hf i (List.mem_range.1 hi)).2
end Go.Proofs.YtfdbedeidcaonabDoor
/-
  AUTOMATA IN MEMORY: what an automaton's three slices hold; one that came in.
-/
namespace Go.Proofs.YtfdbedeidcaonabDoor
open Go.ChangeShapes Go.WideShapes Go.ChangeAt Go.RowKit

structure Sy where
  s : ByteArray
  b : Bool
def Sy.none : Sy := ⟨⟨#[]⟩, false⟩
def symR : Rec Sy := ⟨fun x => [.string x.s, .bool x.b], 2, by decide, fun _ => rfl, fun x u hu => by simp at hu; rcases hu with rfl | rfl <;> rfl, Sy.none⟩
def boolR : Rec Bool := ⟨fun x => [.bool x], 1, by decide, fun _ => rfl, fun x u hu => by simp at hu; subst hu; rfl, false⟩
def intR : Rec Int := ⟨fun x => [.int .i64 x], 1, by decide, fun _ => rfl, fun x u hu => by simp at hu; subst hu; rfl, 0⟩
/-- Where a row lies. -/
structure RwV where
  a : Option Addr
  n : Nat
  c : Nat
def RwV.none : RwV := ⟨.none, 0, 0⟩
def rowR : Rec RwV := ⟨fun x => [.slice x.a x.n x.c], 1, by decide, fun _ => rfl, fun x u hu => by simp at hu; subst hu; rfl, RwV.none⟩
def RowsOf (w : World) (vs : List RwV) (ns : List (List Int)) : Prop := vs.length = ns.length ∧ ∀ i, i < ns.length → HoldsR intR w (.slice (vs.getD i RwV.none).a (vs.getD i RwV.none).n (vs.getD i RwV.none).c) (ns.getD i [])
def HoldsRows (w : World) (v : Value) (ns : List (List Int)) : Prop := ∃ vs, HoldsR rowR w v vs ∧ RowsOf w vs ns
structure Df where
  ss : List Sy
  ns : List (List Int)
  ac : List Bool
def Df.wf (d : Df) : Prop := d.ss.length ≤ maxLen ∧ d.ns.length ≤ maxLen ∧ (∀ l ∈ d.ns, l.length ≤ maxLen ∧ ∀ z ∈ l, (Lit.int .i64 z).wf = true) ∧ d.ac.length ≤ maxLen
def HoldsD (w : World) (sv nv av : Value) (d : Df) : Prop := HoldsR symR w sv d.ss ∧ HoldsRows w nv d.ns ∧ HoldsR boolR w av d.ac
theorem RowsOf.calm {w w' : World} {vs : List RwV} {ns : List (List Int)} (h : RowsOf w vs ns) (hc : GoX.Calm w w') : RowsOf w' vs ns := ⟨h.1, fun i hi => (h.2 i hi).calm hc⟩
theorem HoldsRows.calm {w w' : World} {v : Value} {ns : List (List Int)} (h : HoldsRows w v ns) (hc : GoX.Calm w w') : HoldsRows w' v ns := by
  obtain ⟨vs, h1, h2⟩ := h
  exact ⟨vs, h1.calm hc, h2.calm hc⟩
theorem HoldsD.calm {w w' : World} {sv nv av : Value} {d : Df} (h : HoldsD w sv nv av d) (hc : GoX.Calm w w') : HoldsD w' sv nv av d := ⟨h.1.calm hc, h.2.1.calm hc, h.2.2.calm hc⟩
theorem HoldsD.below {w w' : World} {sv nv av : Value} {d : Df} (h : HoldsD w sv nv av d) (hb : Below w.heap.size w w') : HoldsD w' sv nv av d := h.calm (.of_below hb)
theorem flat_ints (zs : List Int) : intR.flat zs = zs.map (Value.int .i64) := by
  induction zs with
  | nil => rfl
  | cons z zs ih => rw [Rec.flat_cons, ih]; rfl
theorem flat_bools (zs : List Bool) : boolR.flat zs = zs.map Value.bool := by
  induction zs with
  | nil => rfl
  | cons z zs ih => rw [Rec.flat_cons, ih]; rfl
theorem HoldsR.ints {w : World} {v : Value} {zs : List Int} (h : HoldsR intR w v zs) : Holds w v (zs.map (Value.int .i64)) := by
  obtain ⟨a, c, rfl, h2⟩ := h
  rw [flat_ints] at h2
  exact ⟨a, c, by rw [List.length_map], h2⟩
theorem ints_holdsR {w : World} {v : Value} {zs : List Int} (h : Holds w v (zs.map (Value.int .i64))) : HoldsR intR w v zs := by
  obtain ⟨a, c, rfl, h2⟩ := h
  rw [← flat_ints] at h2
  exact ⟨a, c, by rw [List.length_map], h2⟩
theorem sym_at {w : World} {a : Option Addr} {ps : List Sy} (h : RowAt w a (symR.flat ps)) {k : Nat} (hk : k < ps.length) :
    ∃ b off, a = some ⟨b, off, none⟩ ∧ b < w.heap.size ∧ w.cell? ⟨b, off + k * 2, none⟩ = some (.string (ps.getD k Sy.none).s) ∧ w.cell? ⟨b, off + k * 2 + 1, none⟩ = some (.bool (ps.getD k Sy.none).b) := by
  obtain ⟨b, off, h1, h2, h3⟩ := rec_at h hk
  exact ⟨b, off, h1, h2, h3 0 _ rfl, h3 1 _ rfl⟩
theorem bool_at {w : World} {a : Option Addr} {ps : List Bool} (h : RowAt w a (boolR.flat ps)) {k : Nat} (hk : k < ps.length) :
    ∃ b off, a = some ⟨b, off, none⟩ ∧ b < w.heap.size ∧ w.cell? ⟨b, off + k, none⟩ = some (.bool (ps.getD k false)) := by
  obtain ⟨b, off, h1, h2, h3⟩ := rec_at h hk
  have := h3 0 _ rfl
  exact ⟨b, off, h1, h2, by rwa [show off + k * boolR.n + 0 = off + k by show off + k * 1 + 0 = _; omega] at this⟩
theorem nrow_at {w : World} {a : Option Addr} {n c : Nat} {ns : List (List Int)} (h : HoldsRows w (.slice a n c) ns) {k : Nat} (hk : k < ns.length) :
    ∃ b off pa pn pc, a = some ⟨b, off, none⟩ ∧ b < w.heap.size ∧ w.cell? ⟨b, off + k, none⟩ = some (.slice pa pn pc) ∧ HoldsR intR w (.slice pa pn pc) (ns.getD k []) := by
  obtain ⟨vs, ⟨a', c', he, hr⟩, h1, h2⟩ := h
  simp only [Value.slice.injEq] at he
  obtain ⟨rfl, _, _⟩ := he
  obtain ⟨b, off, rfl, hb, hc⟩ := rec_at hr (k := k) (by omega)
  have := hc 0 _ rfl
  exact ⟨b, off, _, _, _, rfl, hb, by rwa [show off + k * rowR.n + 0 = off + k by show off + k * 1 + 0 = _; omega] at this, h2 k hk⟩
theorem HoldsRows.slice {w : World} {v : Value} {ns : List (List Int)} (h : HoldsRows w v ns) : ∃ a c, v = .slice a ns.length c := by
  obtain ⟨vs, ⟨a, c, rfl, _⟩, h2, _⟩ := h
  exact ⟨a, c, by rw [h2]⟩
/-- Elements of a slice that lies in what came in. -/
theorem open_recsc {α : Type} {R : Rec α} {H : Type} {enc : TypeId × Value → H} {P : Program} {w : World} {sp : Nat → Bool} {held : Bool} {st e : TypeId} {v : Value} {fuel : Nat} {x : DataW H × List MemPlace} {ok : α → Prop}
    (hst : P.underlying st = some (.slice e)) (hc : P.cellsOf e = R.n) (hdec : ∀ fuel cs x, cs.length = R.n → DataW.trod enc P w 0 sp held fuel e cs = some x → ∃ p, cs = R.enc p ∧ ok p)
    (hf : DataW.trod enc P w 0 sp held fuel st [v] = some x) : ∃ (ps : List α) (a : Option Addr) (c : Nat), v = .slice a ps.length c ∧ ps.length ≤ maxLen ∧ HoldsR R w v ps ∧ ∀ p ∈ ps, ok p := by
  rcases DataW.trod_slice hst hf with ⟨hcs, _⟩ | ⟨a, len, cap, elems, rest, n, _, hcs, _, _, hl, hm, hlen, hel, _, _⟩
  · simp only [List.cons.injEq, and_true] at hcs
    subst hcs
    exact ⟨[], .none, 0, rfl, by unfold maxLen; simp, ⟨.none, 0, rfl, .inl rfl⟩, fun _ h => by cases h⟩
  · simp only [List.cons.injEq, and_true] at hcs
    subst hcs
    have each : ∀ i, ∃ p : α, i < len → (∀ j u, (R.enc p)[j]? = some u → w.cell? ((a.add (i * R.n)).add j) = some u) ∧ ok p := by
      intro i
      by_cases hi : i < len
      · have hb := hel i hi
        rw [List.getElem?_eq_getElem (by omega), hc, Option.bind_eq_some_iff] at hb
        obtain ⟨cs', hcs', hy⟩ := hb
        obtain ⟨_, hcl, hcc⟩ := World.cells?_some hcs'
        obtain ⟨p, rfl, hp⟩ := hdec _ _ _ hcl hy
        exact ⟨p, fun _ => ⟨fun j u hu => by
          have hj := (List.getElem?_eq_some_iff.1 hu).1
          rw [R.len] at hj
          exact (hcc j hj).trans hu, hp⟩⟩
      · exact ⟨R.dflt, fun h => absurd h hi⟩
    obtain ⟨f, hf⟩ := Classical.skolem.1 each
    obtain ⟨b, off, o⟩ := a
    by_cases hz : len = 0
    · subst hz
      exact ⟨[], _, cap, rfl, by unfold maxLen; simp, ⟨_, cap, rfl, .inl rfl⟩, fun _ h => by cases h⟩
    · have h0 : 0 < (R.enc (f 0)).length := by rw [R.len]; exact R.pos
      have hx := (hf 0 (by omega)).1 0 _ (List.getElem?_eq_getElem h0)
      obtain rfl : o = .none := by
        cases o with
        | none => rfl
        | some u => exact absurd hx (by simp only [Addr.add, World.cell?]; split <;> simp)
      have hbs : b < w.heap.size := by
        rw [add_plain, add_plain] at hx
        exact World.block_lt_of_cell? w _ hx
      refine ⟨(List.range len).map f, _, cap, by simp; rfl, by simp; omega, ⟨some ⟨b, off, .none⟩, cap, by simp, .inr ⟨b, off, rfl, hbs, fun j u hj => ?_⟩⟩, fun p hp => ?_⟩
      · have hl := (List.getElem?_eq_some_iff.1 hj).1
        rw [Rec.flat_len, List.length_map, List.length_range] at hl
        have hn := R.pos
        have hk : j / R.n < len := Nat.div_lt_of_lt_mul (by rw [Nat.mul_comm]; exact hl)
        have hm' : j % R.n < R.n := Nat.mod_lt _ hn
        have e : j = j / R.n * R.n + j % R.n := by have := Nat.div_add_mod j R.n; rw [Nat.mul_comm] at this; omega
        rw [e, Rec.flat_at _ _ _ (by simpa using hk) hm'] at hj
        have e2 : ((List.range len).map f).getD (j / R.n) R.dflt = f (j / R.n) := by simp [List.getD, hk]
        rw [e2] at hj
        have := (hf (j / R.n) hk).1 _ _ hj
        rw [add_plain, add_plain, Nat.add_assoc, ← e] at this
        exact this
      · obtain ⟨i, hi, rfl⟩ := List.mem_map.1 hp
        exact (hf i (List.mem_range.1 hi)).2
/-- An automaton that came in. -/
theorem open_dfa {H : Type} {enc : TypeId × Value → H} {P : Program} {w : World} {sp : Nat → Bool} {held : Bool} {t ts tr ti tb : TypeId} {f0 f1 f2 s0 s1 : Field} {v : Value} {d : DataW H} {qs : List MemPlace} {r : Reach} {b0 : Nat}
    (ht : P.underlying t = some (.struct #[f0, f1, f2])) (hs0 : P.underlying f0.type = some (.slice ts)) (hs1 : P.underlying f1.type = some (.slice tr)) (hs2 : P.underlying f2.type = some (.slice tb)) (hsy : P.underlying ts = some (.struct #[s0, s1])) (hr : P.underlying tr = some (.slice ti))
    (i0 : P.underlying s0.type = some .string) (i1 : P.underlying s1.type = some .bool) (i2 : P.underlying ti = some (.int .i64)) (i3 : P.underlying tb = some .bool)
    (hagg : (match P.underlying t with | some (.struct _) | some (.array _ _) => true | _ => false) = true) (hc : P.cellsOf t = 3) (hcs : P.cellsOf ts = 2) (hcr : P.cellsOf tr = 1) (hci : P.cellsOf ti = 1) (hcb : P.cellsOf tb = 1)
    (o0 : f0.offset = 0) (o1 : f1.offset = 1) (o2 : f2.offset = 2) (c0 : P.cellsOf f0.type = 1) (c1 : P.cellsOf f1.type = 1) (c2 : P.cellsOf f2.type = 1) (q0 : s0.offset = 0) (q1 : s1.offset = 1) (d0 : P.cellsOf s0.type = 1) (d1 : P.cellsOf s1.type = 1)
    (hval : Value.okWide P w r b0 t v) (h : DataW.Trod enc P w 0 sp held t v d qs) : ∃ (x : Df) (sv nv av : Value), v = .agg #[sv, nv, av] ∧ HoldsD w sv nv av x ∧ x.wf := by
  obtain ⟨l, hl, rfl, _⟩ := GoX.arg_agg hagg hc hval
  obtain ⟨fuel, hf⟩ := h
  match l, hl with
  | [sv, nv, av], _ =>
    obtain ⟨_, _, _, _, _, _, g0, g1, g2⟩ := Go.Deep.trod_struct3 ht (show DataW.trod enc P w 0 sp held fuel t [sv, nv, av] = some _ from hf)
    rw [o0, c0] at g0
    rw [o1, c1] at g1
    rw [o2, c2] at g2
    have hds : ∀ fuel cs x, cs.length = symR.n → DataW.trod enc P w 0 sp held fuel ts cs = some x → ∃ p, cs = symR.enc p ∧ True := fun fuel cs x hl hx => by
      match cs, hl with
      | [a0, a1], _ =>
        obtain ⟨_, _, _, _, _, r0, r1⟩ := trod_struct2 hsy hx
        rw [q0, d0] at r0
        rw [q1, d1] at r1
        obtain ⟨m0, b0, _, _⟩ := DataW.trod_string i0 r0
        obtain ⟨m1, b1, _⟩ := DataW.trod_bool i1 r1
        simp only [List.drop_zero, List.take_succ_cons, List.take_zero, List.cons.injEq, and_true, List.drop_succ_cons] at b0 b1
        subst b0 b1
        exact ⟨⟨m0, m1⟩, rfl, trivial⟩
    have hdi : ∀ fuel cs x, cs.length = intR.n → DataW.trod enc P w 0 sp held fuel ti cs = some x → ∃ p : Int, cs = intR.enc p ∧ (Lit.int .i64 p).wf = true := fun fuel cs x hl hx => by
      match cs, hl with
      | [a0], _ =>
        obtain ⟨m0, b0, _, t0⟩ := DataW.trod_int i2 hx
        simp only [List.cons.injEq, and_true] at b0
        subst b0
        exact ⟨m0, rfl, t0⟩
    have hdb : ∀ fuel cs x, cs.length = boolR.n → DataW.trod enc P w 0 sp held fuel tb cs = some x → ∃ p : Bool, cs = boolR.enc p ∧ True := fun fuel cs x hl hx => by
      match cs, hl with
      | [a0], _ =>
        obtain ⟨m0, b0, _⟩ := DataW.trod_bool i3 hx
        simp only [List.cons.injEq, and_true] at b0
        subst b0
        exact ⟨m0, rfl, trivial⟩
    have hdr : ∀ fuel cs x, cs.length = rowR.n → DataW.trod enc P w 0 sp held fuel tr cs = some x → ∃ p : RwV, cs = rowR.enc p ∧ ∃ zs : List Int, HoldsR intR w (.slice p.a p.n p.c) zs ∧ zs.length ≤ maxLen ∧ ∀ z ∈ zs, (Lit.int .i64 z).wf = true := fun fuel cs x hl hx => by
      match cs, hl with
      | [a0], _ =>
        obtain ⟨ps, a, c, b1, hm, hh, hw⟩ := open_recsc (R := intR) (ok := fun z => (Lit.int .i64 z).wf = true) hr hci hdi hx
        subst b1
        exact ⟨⟨a, ps.length, c⟩, rfl, ps, hh, hm, hw⟩
    obtain ⟨ss, sa, sc, rfl, hsm, hsh, -⟩ := open_recsc (R := symR) (ok := fun _ => True) hs0 hcs hds (show DataW.trod enc P w 0 sp held _ f0.type [sv] = some _ by simpa using g0)
    obtain ⟨bs, ba, bc, rfl, hbm, hbh, -⟩ := open_recsc (R := boolR) (ok := fun _ => True) hs2 hcb hdb (show DataW.trod enc P w 0 sp held _ f2.type [av] = some _ by simpa using g2)
    obtain ⟨vs, na, nc, rfl, hnm, hnh, hnw⟩ := open_recsc (R := rowR) hs1 hcr hdr (show DataW.trod enc P w 0 sp held _ f1.type [nv] = some _ by simpa using g1)
    have hch : ∀ p : RwV, ∃ zs : List Int, p ∈ vs → HoldsR intR w (.slice p.a p.n p.c) zs ∧ zs.length ≤ maxLen ∧ ∀ z ∈ zs, (Lit.int .i64 z).wf = true := fun p => by
      by_cases hp : p ∈ vs
      · obtain ⟨ps, h1, h2, h3⟩ := hnw p hp
        exact ⟨ps, fun _ => ⟨h1, h2, h3⟩⟩
      · exact ⟨[], fun h => absurd h hp⟩
    obtain ⟨f, hf⟩ := Classical.skolem.1 hch
    refine ⟨⟨ss, vs.map f, bs⟩, _, _, _, rfl, ⟨hsh, ⟨vs, hnh, by simp, fun i hi => ?_⟩, hbh⟩, hsm, by simpa using hnm, fun l hl => ?_, hbm⟩
    · have hi' : i < vs.length := by simpa using hi
      have e1 : vs.getD i RwV.none = vs[i] := by simp [List.getD, hi']
      have e2 : (vs.map f).getD i [] = f vs[i] := by simp [List.getD, hi']
      rw [e1, e2]
      exact (hf vs[i] (List.getElem_mem _)).1
    · obtain ⟨p, hp, rfl⟩ := List.mem_map.1 hl
      exact (hf p hp).2
end Go.Proofs.YtfdbedeidcaonabDoor
