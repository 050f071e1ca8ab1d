/-
  CALLS THAT LEAVE WHAT LAY: what they hand on. No function is named here.
-/
import Derived.Test.YtgojieabeaalcaaSl
import Derived.Test.YtgojieabeaalcaaXCodeG
import Derived.ChangeSame
import Derived.ChangeArms
namespace Go.Proofs.Ytgojieabeaalcaa
open Go.ChangeShapes Go.WideShapes Go.ChangeAt Go.RowKit

theorem hidden {p : Prop} (h : p) : Hid p := h
theorem RowAt.calm {w w' : World} {a : Option Addr} {xs : List Value} (h : RowAt w a xs) (hc : GoX.Calm w w') : RowAt w' a xs := by
  rcases h with h | ⟨b, off, h1, h2, h3⟩
  · exact .inl h
  · refine .inr ⟨b, off, h1, Nat.lt_of_lt_of_le h2 hc.size, fun j u hj => ?_⟩
    have := h3 j u hj
    unfold World.cell? at this ⊢
    simp only at this ⊢
    rw [hc.block b h2]
    exact this
theorem Holds.calm {w w' : World} {v : Value} {xs : List Value} (h : Holds w v xs) (hc : GoX.Calm w w') : Holds w' v xs := by
  obtain ⟨a, cap, h1, h2⟩ := h
  exact ⟨a, cap, h1, h2.calm hc⟩
theorem calm_alloc (w : World) (o : Obj) : GoX.Calm w (w.alloc o) := .of_below ((Below.refl _ _).alloc (Nat.le_refl _) _)
theorem calm_set {w w' : World} (h : GoX.Calm w w') {b off : Nat} (hb : w.heap.size ≤ b) (v : Value) : GoX.Calm w (w'.setCell ⟨b, off, none⟩ v) := by
  have hk : ∀ k, k < w.heap.size → (w'.setCell ⟨b, off, none⟩ v).heap[k]? = w.heap[k]? := fun k hk => by
    have hne : b ≠ k := by omega
    rw [← h.block k hk]
    simp [World.setCell, Array.getElem?_modify, hne]
  refine ⟨⟨h.kept.1, h.kept.2.1, fun i hi => ?_⟩, fun a ha => ?_, by simpa [World.setCell] using h.size, hk⟩
  · rw [hk i hi]
    cases hx : w.heap[i]? with
    | none => rfl
    | some o =>
      cases o with
      | cells c t fr => exact ⟨rfl, rfl, rfl, fun _ _ => rfl⟩
      | map es clock => exact .inr ⟨rfl, rfl⟩
      | _ => rfl
  · unfold World.frozen?
    rw [hk a.block ha]
end Go.Proofs.Ytgojieabeaalcaa
/-
  ROWS OF RECORDS: elements of some one-cell fields each. No function is named here.
-/
namespace Go.Proofs.Ytgojieabeaalcaa
open Go.ChangeShapes Go.WideShapes Go.ChangeAt Go.RowKit

/-- How an element lies: its cells. -/
structure Rec (α : Type) where
  enc : α → List Value
  n : Nat
  pos : 0 < n
  len : ∀ x, (enc x).length = n
  one : ∀ x, ∀ u ∈ enc x, u.oneCell' = true
  dflt : α
variable {α : Type} {R : Rec α}
def Rec.flat (R : Rec α) (ps : List α) : List Value := ps.flatMap R.enc
theorem Rec.flat_nil : R.flat [] = [] := rfl
theorem Rec.flat_cons (x : α) (ps : List α) : R.flat (x :: ps) = R.enc x ++ R.flat ps := by simp [Rec.flat]
theorem Rec.flat_app (ps qs : List α) : R.flat (ps ++ qs) = R.flat ps ++ R.flat qs := by simp [Rec.flat]
theorem Rec.flat_one (x : α) : R.flat [x] = R.enc x := by simp [Rec.flat]
theorem Rec.flat_len : ∀ ps : List α, (R.flat ps).length = ps.length * R.n
  | [] => by simp [Rec.flat]
  | x :: ps => by rw [Rec.flat_cons, List.length_append, R.len, Rec.flat_len ps, List.length_cons, Nat.add_mul]; omega
theorem Rec.flat_one_cell (ps : List α) : ∀ u ∈ R.flat ps, u.oneCell' = true := fun u hu => by
  obtain ⟨x, _, h⟩ := List.mem_flatMap.1 hu
  exact R.one x u h
theorem Rec.flat_at : ∀ (ps : List α) (k j : Nat), k < ps.length → j < R.n → (R.flat ps)[k * R.n + j]? = (R.enc (ps.getD k R.dflt))[j]?
  | x :: ps, 0, j, _, hj => by
    rw [Rec.flat_cons, Nat.zero_mul, Nat.zero_add, List.getElem?_append_left (by rw [R.len]; exact hj)]
    rfl
  | x :: ps, k + 1, j, hk, hj => by
    have ih := Rec.flat_at ps k j (by simpa using hk) hj
    rw [Rec.flat_cons, List.getElem?_append_right (by rw [R.len, Nat.add_mul]; omega), R.len, show (k + 1) * R.n + j - R.n = k * R.n + j by rw [Nat.add_mul]; omega, ih]
    simp [List.getD]
/-- A slice whose elements are these, with its room. -/
def SlR (R : Rec α) (w : World) (v : Value) (ps : List α) : Prop := ∃ a cap, v = .slice a ps.length cap ∧ ps.length ≤ cap ∧ (a = none → cap = 0) ∧ (∀ x, a = some x → x.spot = none) ∧ RowAt w a (R.flat ps)
/-- The same, its room untold. -/
def HoldsR (R : Rec α) (w : World) (v : Value) (ps : List α) : Prop := ∃ a cap, v = .slice a ps.length cap ∧ RowAt w a (R.flat ps)
theorem SlR.holds {w : World} {v : Value} {ps : List α} (h : SlR R w v ps) : HoldsR R w v ps := by
  obtain ⟨a, cap, h1, _, _, _, h2⟩ := h; exact ⟨a, cap, h1, h2⟩
theorem SlR.calm {w w' : World} {v : Value} {ps : List α} (h : SlR R w v ps) (hb : GoX.Calm w w') : SlR R w' v ps := by
  obtain ⟨a, cap, h1, h2, h3, h4, h5⟩ := h
  exact ⟨a, cap, h1, h2, h3, h4, h5.calm hb⟩
theorem SlR.below {w w' : World} {v : Value} {ps : List α} (h : SlR R w v ps) (hb : Below w.heap.size w w') : SlR R w' v ps := h.calm (.of_below hb)
theorem HoldsR.calm {w w' : World} {v : Value} {ps : List α} (h : HoldsR R w v ps) (hb : GoX.Calm w w') : HoldsR R w' v ps := by
  obtain ⟨a, cap, h1, h2⟩ := h
  exact ⟨a, cap, h1, h2.calm hb⟩
theorem HoldsR.below {w w' : World} {v : Value} {ps : List α} (h : HoldsR R w v ps) (hb : Below w.heap.size w w') : HoldsR R w' v ps := h.calm (.of_below hb)
theorem slR_of_owns {w : World} {base : Nat} {e : TypeId} {v : Value} {ps : List α} (h : w.ownsRow base e R.n v ps.length (R.flat ps)) : SlR R w v ps := by
  obtain ⟨hl, h⟩ := h
  rcases h with ⟨h1, h2⟩ | ⟨g, cap, cur, rfl, hg, hcell, hn, hcm, hsz, htake⟩
  · exact ⟨none, 0, by rw [h1, h2], by omega, fun _ => rfl, fun _ e => (by cases e), .inl (by rw [List.eq_nil_of_length_eq_zero h2]; rfl)⟩
  · refine ⟨some ⟨g, 0, none⟩, cap, rfl, hn, fun e => (by cases e), fun _ e => (by cases e; rfl), .inr ⟨g, 0, rfl, (Array.getElem?_eq_some_iff.1 hcell).1, fun j u hj => ?_⟩⟩
    have hj' : j < (R.flat ps).length := (List.getElem?_eq_some_iff.1 hj).1
    rw [hl] at hj'
    rw [← htake, List.getElem?_take, if_pos hj'] at hj
    simp only [World.cell?, hcell, Nat.zero_add]
    simpa using hj
theorem holdsR_of_owns {w : World} {base : Nat} {e : TypeId} {v : Value} {ps : List α} (h : w.ownsRow base e R.n v ps.length (R.flat ps)) : HoldsR R w v ps := (slR_of_owns h).holds
theorem rec_at {w : World} {a : Option Addr} {ps : List α} (h : RowAt w a (R.flat ps)) {k : Nat} (hk : k < ps.length) :
    ∃ b off, a = some ⟨b, off, none⟩ ∧ b < w.heap.size ∧ ∀ j u, (R.enc (ps.getD k R.dflt))[j]? = some u → w.cell? ⟨b, off + k * R.n + j, none⟩ = some u := by
  rcases h with h0 | ⟨b, off, rfl, hb, hc⟩
  · have := congrArg List.length h0
    rw [Rec.flat_len] at this
    have hp := R.pos
    have : 0 < ps.length * R.n := Nat.mul_pos (by omega) hp
    simp only [List.length_nil] at *; omega
  · refine ⟨b, off, rfl, hb, fun j u hu => ?_⟩
    have hj : j < R.n := by have := (List.getElem?_eq_some_iff.1 hu).1; rwa [R.len] at this
    rw [Nat.add_assoc]
    exact hc _ _ ((Rec.flat_at ps k j hk hj).trans hu)
theorem take_snocR (ps : List α) (d : α) (k : Nat) (hk : k < ps.length) : ps.take (k + 1) = ps.take k ++ [ps.getD k d] := by
  rw [List.take_add_one, List.getElem?_eq_getElem hk]; simp [List.getD, hk]
/-- The cells of a new block. -/
theorem cells_new (w : World) (xs : List Value) (t : TypeId) : ∀ j x, xs[j]? = some x → (w.alloc (.cells xs.toArray t)).cell? ((⟨w.heap.size, 0, none⟩ : Addr).add j) = some x := fun j x hj => by
  rw [add_plain, Nat.zero_add]
  simp only [World.cell?, World.alloc, Array.getElem?_push_size]
  simpa using hj
/-- A slice cut from the front. -/
theorem RowAt.fromR {w : World} {a : Option Addr} {ps : List α} (h : RowAt w a (R.flat ps)) (k : Nat) (hk : k ≤ ps.length) : RowAt w (a.map (·.add (k * R.n))) (R.flat (ps.drop k)) := by
  have e : R.flat (ps.drop k) = (R.flat ps).drop (k * R.n) := by
    have h1 : R.flat ps = R.flat (ps.take k) ++ R.flat (ps.drop k) := by rw [← Rec.flat_app, List.take_append_drop]
    rw [h1, List.drop_left' (by rw [Rec.flat_len, List.length_take, Nat.min_eq_left hk])]
  rw [e]
  exact h.from _
theorem RowAt.toR {w : World} {a : Option Addr} {ps : List α} (h : RowAt w a (R.flat ps)) (k : Nat) (hk : k ≤ ps.length) : RowAt w a (R.flat (ps.take k)) := by
  have e : R.flat (ps.take k) = (R.flat ps).take (k * R.n) := by
    have h1 : R.flat ps = R.flat (ps.take k) ++ R.flat (ps.drop k) := by rw [← Rec.flat_app, List.take_append_drop]
    rw [h1, List.take_left' (by rw [Rec.flat_len, List.length_take, Nat.min_eq_left hk])]
  rw [e]
  exact h.to _
/-- Elements that came in. -/
theorem open_recs {H : Type} {enc : TypeId × Value → H} {P : Program} {w : World} {sp : Nat → Bool} {held : Bool} {t e : TypeId} {v : Value} {d : DataW H} {qs : List MemPlace} {r : Reach} {b0 : Nat} {ok : α → Prop}
    (ht : P.underlying t = some (.slice e)) (hc : P.cellsOf e = R.n) (hdec : ∀ fuel cs x, cs.length = R.n → DataW.trod enc P w 0 sp held fuel e cs = some x → ∃ p, cs = R.enc p ∧ ok p)
    (hval : Value.okWide P w r b0 t v) (h : DataW.Trod enc P w 0 sp held t v d qs) : ∃ ps : List α, ps.length ≤ maxLen ∧ HoldsR R w v ps ∧ ∀ p ∈ ps, ok p := by
  obtain ⟨a0, len, cap, rfl⟩ := okWide_slice ht hval
  obtain ⟨fuel, hf⟩ := h
  rcases DataW.trod_slice ht hf with ⟨hcs, _⟩ | ⟨a, len', cap', elems, rest, n, _, hcs, _, _, hl, hm, hlen, hel, _, _⟩
  · simp only [Value.cells, List.cons.injEq, Value.slice.injEq, and_true] at hcs
    obtain ⟨rfl, rfl, rfl⟩ := hcs
    exact ⟨[], by unfold maxLen; simp, ⟨none, 0, rfl, .inl rfl⟩, fun _ h => by cases h⟩
  · simp only [Value.cells, List.cons.injEq, Value.slice.injEq, and_true] at hcs
    obtain ⟨rfl, rfl, rfl⟩ := hcs
    have each : ∀ i, ∃ p : α, i < len → (∀ j u, (R.enc p)[j]? = some u → w.cell? ((a.add (i * R.n)).add j) = some u) ∧ ok p := by
      intro i
      by_cases hi : i < len
      · have hb := hel i hi
        rw [List.getElem?_eq_getElem (by omega), hc, Option.bind_eq_some_iff] at hb
        obtain ⟨cs', hcs', hy⟩ := hb
        obtain ⟨_, hcl, hcc⟩ := World.cells?_some hcs'
        obtain ⟨p, rfl, hp⟩ := hdec _ _ _ hcl hy
        exact ⟨p, fun _ => ⟨fun j u hu => by
          have hj := (List.getElem?_eq_some_iff.1 hu).1
          rw [R.len] at hj
          exact (hcc j hj).trans hu, hp⟩⟩
      · exact ⟨R.dflt, fun h => absurd h hi⟩
    obtain ⟨f, hf⟩ := Classical.skolem.1 each
    obtain ⟨b, off, o⟩ := a
    by_cases hz : len = 0
    · subst hz
      exact ⟨[], by unfold maxLen; simp, ⟨_, cap, rfl, .inl rfl⟩, fun _ h => by cases h⟩
    · have h0 : 0 < (R.enc (f 0)).length := by rw [R.len]; exact R.pos
      have hx := (hf 0 (by omega)).1 0 _ (List.getElem?_eq_getElem h0)
      obtain rfl : o = none := by
        cases o with
        | none => rfl
        | some u => exact absurd hx (by simp only [Addr.add, World.cell?]; split <;> simp)
      have hbs : b < w.heap.size := by
        rw [add_plain, add_plain] at hx
        exact World.block_lt_of_cell? w _ hx
      refine ⟨(List.range len).map f, by simp; omega, ⟨some ⟨b, off, none⟩, cap, by simp, .inr ⟨b, off, rfl, hbs, fun j u hj => ?_⟩⟩, fun p hp => ?_⟩
      · have hl := (List.getElem?_eq_some_iff.1 hj).1
        rw [Rec.flat_len, List.length_map, List.length_range] at hl
        have hn := R.pos
        have hk : j / R.n < len := Nat.div_lt_of_lt_mul (by rw [Nat.mul_comm]; exact hl)
        have hm' : j % R.n < R.n := Nat.mod_lt _ hn
        have e : j = j / R.n * R.n + j % R.n := by have := Nat.div_add_mod j R.n; rw [Nat.mul_comm] at this; omega
        rw [e, Rec.flat_at _ _ _ (by simpa using hk) hm'] at hj
        have e2 : ((List.range len).map f).getD (j / R.n) R.dflt = f (j / R.n) := by simp [List.getD, hk]
        rw [e2] at hj
        have := (hf (j / R.n) hk).1 _ _ hj
        rw [add_plain, add_plain, Nat.add_assoc, ← e] at this
        exact this
      · obtain ⟨i, hi, rfl⟩ := List.mem_map.1 hp
        exact (hf i (List.mem_range.1 hi)).2
end Go.Proofs.Ytgojieabeaalcaa
