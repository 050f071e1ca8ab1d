/-
  ROWS OF NUMBERS IN MEMORY: what a slice holds, as a walk reads it. No function is named here.
-/
import Derived.Test.YtnmjhbnadfjapaaRows
import Derived.WalkKit
import Derived.WalkSpells
import Derived.ProofKit
import Derived.OpenShut
import Derived.Deep.RegionLaw
import Derived.Deep.QuietTactic
import Derived.BigQuiet
import Derived.Laws.AppendOwnNone
import Derived.Test.YtnmjhbnadfjapaaXCodeG
import Derived.ChangeSame
import Derived.ChangeArms
namespace Go.Proofs.Ytnmjhbnadfjapaa
open Go.ChangeShapes Go.WideShapes Go.ChangeAt Go.RowKit

theorem ret_int {k : IntKind} {a b : Int} (h : a = b) : Ending.returned (.int k a) = Ending.returned (.int k b) := by rw [h]
theorem ret_bool {a b : Bool} (h : a = b) : Ending.returned (.bool a) = Ending.returned (.bool b) := by rw [h]

/-- Cells at an address: n of them, as a list says; none need be there if there are none. -/
def RowAt (w : World) (a : Option Addr) (xs : List Value) : Prop :=
  xs = [] ∨ ∃ b off, a = some ⟨b, off, none⟩ ∧ b < w.heap.size ∧ ∀ j u, xs[j]? = some u → w.cell? ⟨b, off + j, none⟩ = some u

theorem RowAt.below {w w' : World} {a : Option Addr} {xs : List Value} (h : RowAt w a xs) (hb : Below w.heap.size w w') : RowAt w' a xs := by
  rcases h with h | ⟨b, off, h1, h2, h3⟩
  · exact .inl h
  · exact .inr ⟨b, off, h1, Nat.lt_of_lt_of_le h2 hb.size, fun j u hj => (hb.cell (p := ⟨b, off + j, none⟩) h2).trans (h3 j u hj)⟩

/-- A slice value that holds such cells. -/
def Holds (w : World) (v : Value) (xs : List Value) : Prop := ∃ a cap, v = .slice a xs.length cap ∧ RowAt w a xs
theorem Holds.below {w w' : World} {v : Value} {xs : List Value} (h : Holds w v xs) (hb : Below w.heap.size w w') : Holds w' v xs := by
  obtain ⟨a, cap, h1, h2⟩ := h
  exact ⟨a, cap, h1, h2.below hb⟩

theorem holds_of_owns {w : World} {base : Nat} {e : TypeId} {v : Value} {n : Nat} {xs : List Value} (h : w.ownsRow base e 1 v n xs) : Holds w v xs := by
  obtain ⟨hl, h⟩ := h
  rw [Nat.mul_one] at hl
  rcases h with ⟨rfl, rfl⟩ | ⟨g, cap, cur, rfl, hg, hcell, hn, hcm, hsz, htake⟩
  · exact ⟨none, 0, by rw [hl], .inl (List.eq_nil_of_length_eq_zero hl)⟩
  · refine ⟨some ⟨g, 0, none⟩, cap, by rw [hl], .inr ⟨g, 0, rfl, (Array.getElem?_eq_some_iff.1 hcell).1, fun j u hj => ?_⟩⟩
    have hj' : j < xs.length := (List.getElem?_eq_some_iff.1 hj).1
    rw [← htake, List.getElem?_take] at hj
    split at hj
    · simp only [World.cell?, hcell, Nat.zero_add]
      simpa using hj
    · cases hj

/-- A slice of numbers that came in: what it holds. -/
theorem open_row {H : Type} {enc : TypeId × Value → H} {P : Program} {w : World} {sp : Nat → Bool} {held : Bool} {t e : TypeId} {k : IntKind} {v : Value} {d : DataW H} {ps : List MemPlace} {r : Reach} {b0 : Nat}
    (ht : P.underlying t = some (.slice e)) (he : P.underlying e = some (.int k)) (hc : P.cellsOf e = 1) (hval : Value.okWide P w r b0 t v) (h : DataW.Trod enc P w 0 sp held t v d ps)
    (hsp : ∀ b, sp b = true) : ∃ zs : List Int, ∃ n : Nat, n = zs.length ∧ Holds w v (zs.map (Value.int k)) ∧ n ≤ maxLen ∧ ∀ z ∈ zs, (Lit.int k z).wf = true := by
  obtain ⟨a0, len, cap, rfl⟩ := okWide_slice ht hval
  obtain ⟨fuel, hf⟩ := h
  rcases open_ints ht he hc hf with ⟨hcs, hx⟩ | ⟨a, len', cap', zs, hcs, _, hl, hm, hz, hx, hcell, hwz⟩
  · simp only [Value.cells, List.cons.injEq, Value.slice.injEq, and_true] at hcs
    obtain ⟨rfl, rfl, rfl⟩ := hcs
    exact ⟨[], 0, rfl, ⟨none, 0, rfl, .inl rfl⟩, by unfold maxLen; omega, fun _ h => by cases h⟩
  · simp only [Value.cells, List.cons.injEq, Value.slice.injEq, and_true] at hcs
    obtain ⟨rfl, rfl, rfl⟩ := hcs
    rw [hsp, if_pos rfl] at hz
    have hlen : (zs.take len).length = len := by rw [List.length_take]; omega
    refine ⟨zs.take len, len, hlen.symm, ⟨some a, cap, by rw [List.length_map, hlen], ?_⟩, by omega, fun z hz => hwz z (List.mem_of_mem_take hz)⟩
    by_cases h0 : len = 0
    · left; subst h0; simp
    · right
      obtain ⟨b, off, o⟩ := a
      have h1 := hcell 0 (by omega)
      obtain rfl : o = none := by
        cases o with
        | none => rfl
        | some u => exact absurd h1 (by simp only [Addr.add, World.cell?]; split <;> simp)
      refine ⟨b, off, rfl, ?_, fun j u hj => ?_⟩
      · have h2 : (Addr.add ⟨b, off, none⟩ 0).block = b := by simp [Addr.add]
        simp only [World.cell?] at h1
        rw [h2] at h1
        cases hb : w.heap[b]? with
        | none => rw [hb] at h1; cases h1
        | some o => exact (Array.getElem?_eq_some_iff.1 hb).1
      · simp only [List.getElem?_map, Option.map_eq_some_iff] at hj
        obtain ⟨z, hz', rfl⟩ := hj
        rw [List.getElem?_take] at hz'
        split at hz'
        · have := hcell j (by have := (List.getElem?_eq_some_iff.1 hz').1; omega)
          have e : Addr.add ⟨b, off, none⟩ j = ⟨b, off + j, none⟩ := by
            by_cases hj : j = 0
            · subst hj; simp [Addr.add]
            · simp [Addr.add, hj]
          rw [e] at this
          simpa [List.getD, hz'] using this
        · cases hz'

/-- append to an own row, as one step of a region that draws. -/
theorem step_append_own {P : Program} {ops : Array Oper} {o : Oper} {a : Act} {w : World} {K : Act → World → Prop} {Q : Exit → Act → World → Prop} {E : Prop}
    (hg : o.guard = none) (s x : Operand) (t : TypeId) (hop : o.op = Op.call { callee := Callee.builtin Builtin.append, args := #[s, x], argTypes := #[t, t] })
    (base : Nat) (e : TypeId) (i : TypeInfo) (z : Value) (size bytes : Nat) (h1 : P.underlying t = some (.slice e)) (h2 : P.info? e = some i) (h3 : i.zero = some z) (h4 : i.size = size) (h5 : i.bytes = bytes) (h6 : z.cells.size = size) (h7 : 0 < size)
    (v : Value) (n : Nat) (xs : List Value) (hs : a.eval s = v) (hown : w.ownsRow base e size v n xs)
    (ad : Addr) (m c : Nat) (news : List Value) (hx : a.eval x = .slice (some ad) m c) (hn : news.length = m * size) (hc : ∀ j u, news[j]? = some u → w.cell? (ad.add j) = some u) (h1c : ∀ u ∈ news, u.oneCell' = true)
    (b1 : n + m ≤ maxLen) (b2 : (n + m) * bytes ≤ 140737488355328) (hbase : base ≤ w.heap.size)
    (hK : ∀ v' w', w'.ownsRow base e size v' (n + m) (xs ++ news) → w.grownBy w' v.ownBlock → K (a.put o.dst v') w') :
    if Region.wanted o (yielded ops a.tmps) = true then Oper.wp P o a w K Q else E := by
  have hw : Region.wanted o (yielded ops a.tmps) = true := by simp [Region.wanted, hg]
  rw [if_pos hw]
  exact wp_append_own w s x t hop base e i z size bytes h1 h2 h3 h4 h5 h6 h7 v n xs hs hown ad m c news hx hn hc h1c b1 b2 hbase fun v' w' r1 r2 _ => hK v' w' r1 r2
theorem below_drewN {B : Nat} {a w : World} (h : Below B a w) (n : Nat) : Below B a (w.drewN n) := ⟨h.os, h.tape, h.output, h.size, h.block⟩
end Go.Proofs.Ytnmjhbnadfjapaa
/-
  SLICES OF ONE-CELL ELEMENTS, WITH THEIR ROOM: cut, and appended, in whatever order a region draws. No function is named here.
-/
namespace Go.Proofs.Ytnmjhbnadfjapaa
open Go.ChangeShapes Go.WideShapes Go.ChangeAt Go.RowKit

/-- A slice that holds xs, and its room. -/
def Sl (w : World) (v : Value) (xs : List Value) : Prop := ∃ a cap, v = .slice a xs.length cap ∧ xs.length ≤ cap ∧ (a = none → cap = 0) ∧ (∀ x, a = some x → x.spot = none) ∧ RowAt w a xs
theorem Sl.holds {w : World} {v : Value} {xs : List Value} (h : Sl w v xs) : Holds w v xs := by
  obtain ⟨a, cap, h1, _, _, _, h2⟩ := h; exact ⟨a, cap, h1, h2⟩
theorem Sl.below {w w' : World} {v : Value} {xs : List Value} (h : Sl w v xs) (hb : Below w.heap.size w w') : Sl w' v xs := by
  obtain ⟨a, cap, h1, h2, h3, h4, h5⟩ := h
  exact ⟨a, cap, h1, h2, h3, h4, h5.below hb⟩
theorem sl_of_owns {w : World} {base : Nat} {e : TypeId} {v : Value} {n : Nat} {xs : List Value} (h : w.ownsRow base e 1 v n xs) : Sl w v xs := by
  have hh := holds_of_owns h
  obtain ⟨hl, h⟩ := h
  rw [Nat.mul_one] at hl
  obtain ⟨a, cap, h1, h2⟩ := hh
  rcases h with ⟨h3, h4⟩ | ⟨g, cap', cur, h3, hg, hcell, hn, _⟩
  · rw [h3] at h1
    simp only [Value.slice.injEq] at h1
    obtain ⟨rfl, h5, rfl⟩ := h1
    exact ⟨none, 0, by rw [h3, ← h5], by omega, fun _ => rfl, fun _ e => (by cases e), h2⟩
  · rw [h3] at h1
    simp only [Value.slice.injEq] at h1
    obtain ⟨rfl, h5, rfl⟩ := h1
    exact ⟨_, cap', by rw [h3, ← h5], by omega, fun e => (by cases e), fun _ e => (by cases e; rfl), h2⟩
theorem add_plain {b off : Nat} (j : Nat) : Addr.add ⟨b, off, none⟩ j = ⟨b, off + j, none⟩ := by
  by_cases hj : j = 0
  · subst hj; simp [Addr.add]
  · simp [Addr.add, hj]
theorem RowAt.from {w : World} {a : Option Addr} {xs : List Value} (h : RowAt w a xs) (l : Nat) : RowAt w (a.map (·.add l)) (xs.drop l) := by
  rcases h with rfl | ⟨b, off, rfl, h2, h3⟩
  · exact .inl (by simp)
  · refine .inr ⟨b, off + l, by simp [add_plain], h2, fun j u hj => ?_⟩
    rw [List.getElem?_drop] at hj
    have := h3 (l + j) u hj
    rwa [← Nat.add_assoc] at this
theorem RowAt.to {w : World} {a : Option Addr} {xs : List Value} (h : RowAt w a xs) (l : Nat) : RowAt w a (xs.take l) := by
  rcases h with rfl | ⟨b, off, rfl, h2, h3⟩
  · exact .inl (by simp)
  · refine .inr ⟨b, off, rfl, h2, fun j u hj => h3 j u ?_⟩
    rw [List.getElem?_take] at hj
    split at hj
    · exact hj
    · cases hj
theorem Sl.from {w : World} {a : Option Addr} {n cap : Nat} {xs : List Value} (h : Sl w (.slice a n cap) xs) (l : Nat) (hl : l ≤ n) : Sl w (sliced a l n cap 1) (xs.drop l) := by
  obtain ⟨a', cap', h1, h2, h3, h4, h5⟩ := h
  cases h1
  unfold sliced
  by_cases hc : cap = l
  · have : xs.drop l = [] := List.drop_eq_nil_of_le (by omega)
    rw [if_pos hc, this]
    exact ⟨a, cap - l, by simp; omega, by simp, fun e => by have := h3 e; omega, h4, .inl rfl⟩
  · rw [if_neg hc]
    refine ⟨a.map (·.add (l * 1)), cap - l, by simp, by simp; omega, fun e => ?_, fun x e => ?_, by simpa using h5.from l⟩
    · have := h3 (by simpa using e); omega
    · obtain ⟨y, hy, rfl⟩ := Option.map_eq_some_iff.1 e
      have := h4 y hy
      obtain ⟨b, off, sb⟩ := y
      simp only at this
      subst this
      rw [add_plain]
theorem Sl.to {w : World} {a : Option Addr} {n cap : Nat} {xs : List Value} (h : Sl w (.slice a n cap) xs) (l : Nat) (hl : l ≤ n) : Sl w (sliced a 0 l cap 1) (xs.take l) := by
  obtain ⟨a', cap', h1, h2, h3, h4, h5⟩ := h
  cases h1
  unfold sliced
  have hlen : (xs.take l).length = l := by rw [List.length_take]; omega
  by_cases hc : cap = 0
  · rw [if_pos hc]
    exact ⟨a, cap - 0, by rw [hlen]; simp, by rw [hlen]; omega, fun e => by have := h3 e; omega, h4, h5.to l⟩
  · rw [if_neg hc]
    refine ⟨a.map (·.add (0 * 1)), cap - 0, by rw [hlen]; simp, by rw [hlen]; omega, fun e => ?_, fun x e => ?_, ?_⟩
    · have := h3 (by simpa using e); omega
    · obtain ⟨y, hy, rfl⟩ := Option.map_eq_some_iff.1 e
      have := h4 y hy
      obtain ⟨b, off, sb⟩ := y
      simp only at this
      subst this
      rw [add_plain]
    · have := (h5.to l).from 0
      simpa using this
theorem Sl.to' {w : World} {g og n cap : Nat} {xs : List Value} (h : Sl w (.slice (some ⟨g, og, none⟩) n cap) xs) (l : Nat) (hl : l ≤ n) : Sl w (.slice (some ⟨g, og, none⟩) l cap) (xs.take l) := by
  have := h.to l hl
  simpa [sliced, add_plain] using this
theorem Sl.from' {w : World} {g og n cap : Nat} {xs : List Value} (h : Sl w (.slice (some ⟨g, og, none⟩) n cap) xs) (l : Nat) (hl : l ≤ n) :
    Sl w (.slice (if cap = l then some ⟨g, og, none⟩ else some ⟨g, og + l, none⟩) (n - l) (cap - l)) (xs.drop l) := by
  have := h.from l hl
  simpa [sliced, add_plain] using this
theorem Sl.one (w : World) (x : Value) (e : TypeId) : Sl (w.alloc (.cells #[x] e)) (.slice (some ⟨w.heap.size, 0, none⟩) 1 1) [x] := by
  refine ⟨_, 1, rfl, Nat.le_refl _, fun e => (by cases e), fun _ h => (by cases h; rfl), .inr ⟨_, _, rfl, by simp, fun j u hj => ?_⟩⟩
  have := cell_one_new w x e j u hj
  rwa [add_plain] at this
theorem Sl.alloc {w : World} {v : Value} {xs : List Value} (h : Sl w v xs) (o : Obj) : Sl (w.alloc o) v xs := h.below ((Below.refl _ _).alloc (Nat.le_refl _) _)
theorem Sl.drew {w : World} {v : Value} {xs : List Value} (h : Sl w v xs) : Sl w.drew v xs := h
theorem Sl.grown {w w' : World} {b off n c : Nat} {xs : List Value} {row : Option Nat} (h : Sl w (.slice (some ⟨b, off, none⟩) n c) xs) (hg : w.grownBy w' row) (hne : row ≠ some b) : Sl w' (.slice (some ⟨b, off, none⟩) n c) xs := by
  obtain ⟨a, cap, h1, h2, h3, h4, h5⟩ := h
  simp only [Value.slice.injEq] at h1
  obtain ⟨rfl, rfl, rfl⟩ := h1
  refine ⟨_, _, rfl, h2, h3, h4, ?_⟩
  rcases h5 with rfl | ⟨b, off, h6, hb, hc⟩
  · exact .inl rfl
  · cases h6
    refine .inr ⟨_, _, rfl, Nat.lt_of_lt_of_le hb hg.size, fun j u hj => ?_⟩
    have := hc j u hj
    unfold World.cell? at this ⊢
    simp only at this ⊢
    rw [hg.block _ hb (fun e => hne e.symm)]
    exact this

theorem own_some {w : World} {base : Nat} {e : TypeId} {size : Nat} {v : Value} {n : Nat} {xs : List Value} (h : w.ownsRow base e size v n xs) (hv : v ≠ .slice none 0 0) : ∃ g c, v = .slice (some ⟨g, 0, none⟩) n c ∧ base ≤ g ∧ n ≤ c := by
  rcases h.2 with ⟨rfl, _⟩ | ⟨g, cap, cur, h1, h2, h3, h4, _⟩
  · exact absurd rfl hv
  · exact ⟨g, cap, h1, h2, h4⟩
theorem owns_keep {w w' : World} {base : Nat} {e : TypeId} {size : Nat} {v : Value} {n : Nat} {xs : List Value} (h : w.ownsRow base e size v n xs) (hb : Below w.heap.size w w') : w'.ownsRow base e size v n xs := by
  refine ⟨h.1, ?_⟩
  rcases h.2 with h2 | ⟨g, cap, cur, h1, h2, h3, h4⟩
  · exact .inl h2
  · exact .inr ⟨g, cap, cur, h1, h2, (hb.block g (Array.getElem?_eq_some_iff.1 h3).1).trans h3, h4⟩
theorem run_app {P : Program} (w : World) (base : Nat) (t ty e : TypeId) (i : TypeInfo) (z : Value) (bytes : Nat) (ht : P.underlying t = some (.slice e)) (hi : P.info? e = some i) (hz : i.zero = some z)
    (hsize : i.size = 1) (hby : i.bytes = bytes) (hzs : z.cells.size = 1) {v : Value} {n : Nat} {xs : List Value} (hown : w.ownsRow base e 1 v n xs) {vx : Value} {news : List Value} (hx : Sl w vx news)
    (h1c : ∀ u ∈ news, u.oneCell' = true) (b1 : n + news.length ≤ maxLen) (b2 : (n + news.length) * bytes ≤ 140737488355328) (hbase : base ≤ w.heap.size) :
    ∃ v' w', (Builtin.append_ #[t, t] ty #[v, vx]).run P w = .ok v' w' ∧ w'.ownsRow base e 1 v' (n + news.length) (xs ++ news) ∧ w.grownBy w' v.ownBlock ∧ (v' = .slice none 0 0 → v = .slice none 0 0) := by
  obtain ⟨a, cap, rfl, hl, hn, hs, hrow⟩ := hx
  cases a with
  | none =>
    obtain rfl := hn rfl
    obtain rfl : news = [] := List.eq_nil_of_length_eq_zero (by omega)
    refine ⟨v, w, run_append_owned_none (P := P) (w := w) base t ty e i 1 ht hi v n xs hown, by simpa using hown, World.grownBy.refl _ _, fun h => h⟩
  | some ad =>
    obtain ⟨b, off, sb⟩ := ad
    obtain rfl : sb = none := hs _ rfl
    have hc : ∀ j u, news[j]? = some u → w.cell? (Addr.add ⟨b, off, none⟩ j) = some u := fun j u hj => by
      rcases hrow with rfl | ⟨b', off', h1, _, h3⟩
      · cases hj
      · cases h1; rw [add_plain]; exact h3 j u hj
    obtain ⟨v', w', h1, h2, h3, h4⟩ := run_append_own (P := P) w base t ty e i z 1 bytes ht hi hz hsize hby hzs (by decide) v n xs hown ⟨b, off, none⟩ news.length cap news (by simp) hc h1c b1 b2 hbase
    exact ⟨v', w', h1, h2, h3, fun h => (h4.1 h).1⟩

/-- append to an own row, of whatever slice, as one step of a region that draws. -/
theorem step_app {P : Program} {ops : Array Oper} {o : Oper} {a : Act} {w : World} {K : Act → World → Prop} {Q : Exit → Act → World → Prop} {E : Prop}
    (hg : o.guard = none) (s x : Operand) (t : TypeId) (hop : o.op = Op.call { callee := Callee.builtin Builtin.append, args := #[s, x], argTypes := #[t, t] })
    (base : Nat) (e : TypeId) (i : TypeInfo) (z : Value) (bytes : Nat) (h1 : P.underlying t = some (.slice e)) (h2 : P.info? e = some i) (h3 : i.zero = some z) (h4 : i.size = 1) (h5 : i.bytes = bytes) (h6 : z.cells.size = 1)
    {v : Value} {n : Nat} {xs : List Value} (hs : a.eval s = v) (hown : w.ownsRow base e 1 v n xs) {vx : Value} {news : List Value} (hx : a.eval x = vx) (hsl : Sl w vx news) (h1c : ∀ u ∈ news, u.oneCell' = true)
    (b1 : n + news.length ≤ maxLen) (b2 : (n + news.length) * bytes ≤ 140737488355328) (hbase : base ≤ w.heap.size)
    (hK : ∀ v' w', w'.ownsRow base e 1 v' (n + news.length) (xs ++ news) → w.grownBy w' v.ownBlock → (v' = .slice none 0 0 → v = .slice none 0 0) → K (a.put o.dst v') w') :
    if Region.wanted o (yielded ops a.tmps) = true then Oper.wp P o a w K Q else E := by
  have hw : Region.wanted o (yielded ops a.tmps) = true := by simp [Region.wanted, hg]
  rw [if_pos hw]
  obtain ⟨v', w', hr, r2, r3, r4⟩ := run_app (P := P) w base t o.type e i z bytes h1 h2 h3 h4 h5 h6 hown hsl h1c b1 b2 hbase
  unfold Oper.wp execOp
  simp only [hop, resolve, invoke, builtin, Sem.run_bind, Sem.run_pure, Result.andThen_ok, List.map_toArray, List.map_cons, List.map_nil, hs, hx, hr]
  exact hK v' w' r2 r3 r4
theorem wpList_app {P : Program} {ops : Array Oper} {rest : List Oper} {o : Oper} {a : Act} {w : World} {Q : Exit → Act → World → Prop}
    (hg : o.guard = none) (s x : Operand) (t : TypeId) (hop : o.op = Op.call { callee := Callee.builtin Builtin.append, args := #[s, x], argTypes := #[t, t] })
    (base : Nat) (e : TypeId) (i : TypeInfo) (z : Value) (bytes : Nat) (h1 : P.underlying t = some (.slice e)) (h2 : P.info? e = some i) (h3 : i.zero = some z) (h4 : i.size = 1) (h5 : i.bytes = bytes) (h6 : z.cells.size = 1)
    {v : Value} {n : Nat} {xs : List Value} (hs : a.eval s = v) (hown : w.ownsRow base e 1 v n xs) {vx : Value} {news : List Value} (hx : a.eval x = vx) (hsl : Sl w vx news) (h1c : ∀ u ∈ news, u.oneCell' = true)
    (b1 : n + news.length ≤ maxLen) (b2 : (n + news.length) * bytes ≤ 140737488355328) (hbase : base ≤ w.heap.size)
    (h : ∀ v' w', w'.ownsRow base e 1 v' (n + news.length) (xs ++ news) → w.grownBy w' v.ownBlock → (v' = .slice none 0 0 → v = .slice none 0 0) → wpList P ops Q rest (a.put o.dst v') w') : wpList P ops Q (o :: rest) a w := by
  refine wpList_plain hg fun K hK => ?_
  obtain ⟨v', w', hr, r2, r3, r4⟩ := run_app (P := P) w base t o.type e i z bytes h1 h2 h3 h4 h5 h6 hown hsl h1c b1 b2 hbase
  unfold Oper.wp execOp
  simp only [hop, resolve, invoke, builtin, Sem.run_bind, Sem.run_pure, Result.andThen_ok, List.map_toArray, List.map_cons, List.map_nil, hs, hx, hr]
  exact hK _ _ (h v' w' r2 r3 r4)
/-- The same, where the operation bears a guard that holds. -/
theorem wpList_appW {P : Program} {ops : Array Oper} {rest : List Oper} {o : Oper} {a : Act} {w : World} {Q : Exit → Act → World → Prop}
    (hg : Region.wanted o (yielded ops a.tmps) = true) (s x : Operand) (t : TypeId) (hop : o.op = Op.call { callee := Callee.builtin Builtin.append, args := #[s, x], argTypes := #[t, t] })
    (base : Nat) (e : TypeId) (i : TypeInfo) (z : Value) (bytes : Nat) (h1 : P.underlying t = some (.slice e)) (h2 : P.info? e = some i) (h3 : i.zero = some z) (h4 : i.size = 1) (h5 : i.bytes = bytes) (h6 : z.cells.size = 1)
    {v : Value} {n : Nat} {xs : List Value} (hs : a.eval s = v) (hown : w.ownsRow base e 1 v n xs) {vx : Value} {news : List Value} (hx : a.eval x = vx) (hsl : Sl w vx news) (h1c : ∀ u ∈ news, u.oneCell' = true)
    (b1 : n + news.length ≤ maxLen) (b2 : (n + news.length) * bytes ≤ 140737488355328) (hbase : base ≤ w.heap.size)
    (h : ∀ v' w', w'.ownsRow base e 1 v' (n + news.length) (xs ++ news) → w.grownBy w' v.ownBlock → (v' = .slice none 0 0 → v = .slice none 0 0) → wpList P ops Q rest (a.put o.dst v') w') : wpList P ops Q (o :: rest) a w := by
  refine BigFrame.wpList_want hg fun K hK => ?_
  obtain ⟨v', w', hr, r2, r3, r4⟩ := run_app (P := P) w base t o.type e i z bytes h1 h2 h3 h4 h5 h6 hown hsl h1c b1 b2 hbase
  unfold Oper.wp execOp
  simp only [hop, resolve, invoke, builtin, Sem.run_bind, Sem.run_pure, Result.andThen_ok, List.map_toArray, List.map_cons, List.map_nil, hs, hx, hr]
  exact hK _ _ (h v' w' r2 r3 r4)
end Go.Proofs.Ytnmjhbnadfjapaa
/-
  CALLS THAT LEAVE WHAT LAY: what they hand on. No function is named here.
-/
namespace Go.Proofs.Ytnmjhbnadfjapaa
open Go.ChangeShapes Go.WideShapes Go.ChangeAt Go.RowKit

theorem hidden {p : Prop} (h : p) : Hid p := h
theorem RowAt.calm {w w' : World} {a : Option Addr} {xs : List Value} (h : RowAt w a xs) (hc : GoX.Calm w w') : RowAt w' a xs := by
  rcases h with h | ⟨b, off, h1, h2, h3⟩
  · exact .inl h
  · refine .inr ⟨b, off, h1, Nat.lt_of_lt_of_le h2 hc.size, fun j u hj => ?_⟩
    have := h3 j u hj
    unfold World.cell? at this ⊢
    simp only at this ⊢
    rw [hc.block b h2]
    exact this
theorem Holds.calm {w w' : World} {v : Value} {xs : List Value} (h : Holds w v xs) (hc : GoX.Calm w w') : Holds w' v xs := by
  obtain ⟨a, cap, h1, h2⟩ := h
  exact ⟨a, cap, h1, h2.calm hc⟩
theorem calm_alloc (w : World) (o : Obj) : GoX.Calm w (w.alloc o) := .of_below ((Below.refl _ _).alloc (Nat.le_refl _) _)
theorem calm_set {w w' : World} (h : GoX.Calm w w') {b off : Nat} (hb : w.heap.size ≤ b) (v : Value) : GoX.Calm w (w'.setCell ⟨b, off, none⟩ v) := by
  have hk : ∀ k, k < w.heap.size → (w'.setCell ⟨b, off, none⟩ v).heap[k]? = w.heap[k]? := fun k hk => by
    have hne : b ≠ k := by omega
    rw [← h.block k hk]
    simp [World.setCell, Array.getElem?_modify, hne]
  refine ⟨⟨h.kept.1, h.kept.2.1, fun i hi => ?_⟩, fun a ha => ?_, by simpa [World.setCell] using h.size, hk⟩
  · rw [hk i hi]
    cases hx : w.heap[i]? with
    | none => rfl
    | some o =>
      cases o with
      | cells c t fr => exact ⟨rfl, rfl, rfl, fun _ _ => rfl⟩
      | map es clock => exact .inr ⟨rfl, rfl⟩
      | _ => rfl
  · unfold World.frozen?
    rw [hk a.block ha]
end Go.Proofs.Ytnmjhbnadfjapaa
/-
  ROWS OF RECORDS: elements of some one-cell fields each. No function is named here.
-/
namespace Go.Proofs.Ytnmjhbnadfjapaa
open Go.ChangeShapes Go.WideShapes Go.ChangeAt Go.RowKit

/-- How an element lies: its cells. -/
structure Rec (α : Type) where
  enc : α → List Value
  n : Nat
  pos : 0 < n
  len : ∀ x, (enc x).length = n
  one : ∀ x, ∀ u ∈ enc x, u.oneCell' = true
  dflt : α
variable {α : Type} {R : Rec α}
def Rec.flat (R : Rec α) (ps : List α) : List Value := ps.flatMap R.enc
theorem Rec.flat_nil : R.flat [] = [] := rfl
theorem Rec.flat_cons (x : α) (ps : List α) : R.flat (x :: ps) = R.enc x ++ R.flat ps := by simp [Rec.flat]
theorem Rec.flat_app (ps qs : List α) : R.flat (ps ++ qs) = R.flat ps ++ R.flat qs := by simp [Rec.flat]
theorem Rec.flat_one (x : α) : R.flat [x] = R.enc x := by simp [Rec.flat]
theorem Rec.flat_len : ∀ ps : List α, (R.flat ps).length = ps.length * R.n
  | [] => by simp [Rec.flat]
  | x :: ps => by rw [Rec.flat_cons, List.length_append, R.len, Rec.flat_len ps, List.length_cons, Nat.add_mul]; omega
theorem Rec.flat_one_cell (ps : List α) : ∀ u ∈ R.flat ps, u.oneCell' = true := fun u hu => by
  obtain ⟨x, _, h⟩ := List.mem_flatMap.1 hu
  exact R.one x u h
theorem Rec.flat_at : ∀ (ps : List α) (k j : Nat), k < ps.length → j < R.n → (R.flat ps)[k * R.n + j]? = (R.enc (ps.getD k R.dflt))[j]?
  | x :: ps, 0, j, _, hj => by
    rw [Rec.flat_cons, Nat.zero_mul, Nat.zero_add, List.getElem?_append_left (by rw [R.len]; exact hj)]
    rfl
  | x :: ps, k + 1, j, hk, hj => by
    have ih := Rec.flat_at ps k j (by simpa using hk) hj
    rw [Rec.flat_cons, List.getElem?_append_right (by rw [R.len, Nat.add_mul]; omega), R.len, show (k + 1) * R.n + j - R.n = k * R.n + j by rw [Nat.add_mul]; omega, ih]
    simp [List.getD]
/-- A slice whose elements are these, with its room. -/
def SlR (R : Rec α) (w : World) (v : Value) (ps : List α) : Prop := ∃ a cap, v = .slice a ps.length cap ∧ ps.length ≤ cap ∧ (a = none → cap = 0) ∧ (∀ x, a = some x → x.spot = none) ∧ RowAt w a (R.flat ps)
/-- The same, its room untold. -/
def HoldsR (R : Rec α) (w : World) (v : Value) (ps : List α) : Prop := ∃ a cap, v = .slice a ps.length cap ∧ RowAt w a (R.flat ps)
theorem SlR.holds {w : World} {v : Value} {ps : List α} (h : SlR R w v ps) : HoldsR R w v ps := by
  obtain ⟨a, cap, h1, _, _, _, h2⟩ := h; exact ⟨a, cap, h1, h2⟩
theorem SlR.calm {w w' : World} {v : Value} {ps : List α} (h : SlR R w v ps) (hb : GoX.Calm w w') : SlR R w' v ps := by
  obtain ⟨a, cap, h1, h2, h3, h4, h5⟩ := h
  exact ⟨a, cap, h1, h2, h3, h4, h5.calm hb⟩
theorem SlR.below {w w' : World} {v : Value} {ps : List α} (h : SlR R w v ps) (hb : Below w.heap.size w w') : SlR R w' v ps := h.calm (.of_below hb)
theorem HoldsR.calm {w w' : World} {v : Value} {ps : List α} (h : HoldsR R w v ps) (hb : GoX.Calm w w') : HoldsR R w' v ps := by
  obtain ⟨a, cap, h1, h2⟩ := h
  exact ⟨a, cap, h1, h2.calm hb⟩
theorem HoldsR.below {w w' : World} {v : Value} {ps : List α} (h : HoldsR R w v ps) (hb : Below w.heap.size w w') : HoldsR R w' v ps := h.calm (.of_below hb)
theorem slR_of_owns {w : World} {base : Nat} {e : TypeId} {v : Value} {ps : List α} (h : w.ownsRow base e R.n v ps.length (R.flat ps)) : SlR R w v ps := by
  obtain ⟨hl, h⟩ := h
  rcases h with ⟨h1, h2⟩ | ⟨g, cap, cur, rfl, hg, hcell, hn, hcm, hsz, htake⟩
  · exact ⟨none, 0, by rw [h1, h2], by omega, fun _ => rfl, fun _ e => (by cases e), .inl (by rw [List.eq_nil_of_length_eq_zero h2]; rfl)⟩
  · refine ⟨some ⟨g, 0, none⟩, cap, rfl, hn, fun e => (by cases e), fun _ e => (by cases e; rfl), .inr ⟨g, 0, rfl, (Array.getElem?_eq_some_iff.1 hcell).1, fun j u hj => ?_⟩⟩
    have hj' : j < (R.flat ps).length := (List.getElem?_eq_some_iff.1 hj).1
    rw [hl] at hj'
    rw [← htake, List.getElem?_take, if_pos hj'] at hj
    simp only [World.cell?, hcell, Nat.zero_add]
    simpa using hj
theorem holdsR_of_owns {w : World} {base : Nat} {e : TypeId} {v : Value} {ps : List α} (h : w.ownsRow base e R.n v ps.length (R.flat ps)) : HoldsR R w v ps := (slR_of_owns h).holds
theorem rec_at {w : World} {a : Option Addr} {ps : List α} (h : RowAt w a (R.flat ps)) {k : Nat} (hk : k < ps.length) :
    ∃ b off, a = some ⟨b, off, none⟩ ∧ b < w.heap.size ∧ ∀ j u, (R.enc (ps.getD k R.dflt))[j]? = some u → w.cell? ⟨b, off + k * R.n + j, none⟩ = some u := by
  rcases h with h0 | ⟨b, off, rfl, hb, hc⟩
  · have := congrArg List.length h0
    rw [Rec.flat_len] at this
    have hp := R.pos
    have : 0 < ps.length * R.n := Nat.mul_pos (by omega) hp
    simp only [List.length_nil] at *; omega
  · refine ⟨b, off, rfl, hb, fun j u hu => ?_⟩
    have hj : j < R.n := by have := (List.getElem?_eq_some_iff.1 hu).1; rwa [R.len] at this
    rw [Nat.add_assoc]
    exact hc _ _ ((Rec.flat_at ps k j hk hj).trans hu)
theorem take_snocR (ps : List α) (d : α) (k : Nat) (hk : k < ps.length) : ps.take (k + 1) = ps.take k ++ [ps.getD k d] := by
  rw [List.take_add_one, List.getElem?_eq_getElem hk]; simp [List.getD, hk]
/-- The cells of a new block. -/
theorem cells_new (w : World) (xs : List Value) (t : TypeId) : ∀ j x, xs[j]? = some x → (w.alloc (.cells xs.toArray t)).cell? ((⟨w.heap.size, 0, none⟩ : Addr).add j) = some x := fun j x hj => by
  rw [add_plain, Nat.zero_add]
  simp only [World.cell?, World.alloc, Array.getElem?_push_size]
  simpa using hj
/-- A slice cut from the front. -/
theorem RowAt.fromR {w : World} {a : Option Addr} {ps : List α} (h : RowAt w a (R.flat ps)) (k : Nat) (hk : k ≤ ps.length) : RowAt w (a.map (·.add (k * R.n))) (R.flat (ps.drop k)) := by
  have e : R.flat (ps.drop k) = (R.flat ps).drop (k * R.n) := by
    have h1 : R.flat ps = R.flat (ps.take k) ++ R.flat (ps.drop k) := by rw [← Rec.flat_app, List.take_append_drop]
    rw [h1, List.drop_left' (by rw [Rec.flat_len, List.length_take, Nat.min_eq_left hk])]
  rw [e]
  exact h.from _
theorem RowAt.toR {w : World} {a : Option Addr} {ps : List α} (h : RowAt w a (R.flat ps)) (k : Nat) (hk : k ≤ ps.length) : RowAt w a (R.flat (ps.take k)) := by
  have e : R.flat (ps.take k) = (R.flat ps).take (k * R.n) := by
    have h1 : R.flat ps = R.flat (ps.take k) ++ R.flat (ps.drop k) := by rw [← Rec.flat_app, List.take_append_drop]
    rw [h1, List.take_left' (by rw [Rec.flat_len, List.length_take, Nat.min_eq_left hk])]
  rw [e]
  exact h.to _
/-- Elements that came in. -/
theorem open_recs {H : Type} {enc : TypeId × Value → H} {P : Program} {w : World} {sp : Nat → Bool} {held : Bool} {t e : TypeId} {v : Value} {d : DataW H} {qs : List MemPlace} {r : Reach} {b0 : Nat} {ok : α → Prop}
    (ht : P.underlying t = some (.slice e)) (hc : P.cellsOf e = R.n) (hdec : ∀ fuel cs x, cs.length = R.n → DataW.trod enc P w 0 sp held fuel e cs = some x → ∃ p, cs = R.enc p ∧ ok p)
    (hval : Value.okWide P w r b0 t v) (h : DataW.Trod enc P w 0 sp held t v d qs) : ∃ ps : List α, ps.length ≤ maxLen ∧ HoldsR R w v ps ∧ ∀ p ∈ ps, ok p := by
  obtain ⟨a0, len, cap, rfl⟩ := okWide_slice ht hval
  obtain ⟨fuel, hf⟩ := h
  rcases DataW.trod_slice ht hf with ⟨hcs, _⟩ | ⟨a, len', cap', elems, rest, n, _, hcs, _, _, hl, hm, hlen, hel, _, _⟩
  · simp only [Value.cells, List.cons.injEq, Value.slice.injEq, and_true] at hcs
    obtain ⟨rfl, rfl, rfl⟩ := hcs
    exact ⟨[], by unfold maxLen; simp, ⟨none, 0, rfl, .inl rfl⟩, fun _ h => by cases h⟩
  · simp only [Value.cells, List.cons.injEq, Value.slice.injEq, and_true] at hcs
    obtain ⟨rfl, rfl, rfl⟩ := hcs
    have each : ∀ i, ∃ p : α, i < len → (∀ j u, (R.enc p)[j]? = some u → w.cell? ((a.add (i * R.n)).add j) = some u) ∧ ok p := by
      intro i
      by_cases hi : i < len
      · have hb := hel i hi
        rw [List.getElem?_eq_getElem (by omega), hc, Option.bind_eq_some_iff] at hb
        obtain ⟨cs', hcs', hy⟩ := hb
        obtain ⟨_, hcl, hcc⟩ := World.cells?_some hcs'
        obtain ⟨p, rfl, hp⟩ := hdec _ _ _ hcl hy
        exact ⟨p, fun _ => ⟨fun j u hu => by
          have hj := (List.getElem?_eq_some_iff.1 hu).1
          rw [R.len] at hj
          exact (hcc j hj).trans hu, hp⟩⟩
      · exact ⟨R.dflt, fun h => absurd h hi⟩
    obtain ⟨f, hf⟩ := Classical.skolem.1 each
    obtain ⟨b, off, o⟩ := a
    by_cases hz : len = 0
    · subst hz
      exact ⟨[], by unfold maxLen; simp, ⟨_, cap, rfl, .inl rfl⟩, fun _ h => by cases h⟩
    · have h0 : 0 < (R.enc (f 0)).length := by rw [R.len]; exact R.pos
      have hx := (hf 0 (by omega)).1 0 _ (List.getElem?_eq_getElem h0)
      obtain rfl : o = none := by
        cases o with
        | none => rfl
        | some u => exact absurd hx (by simp only [Addr.add, World.cell?]; split <;> simp)
      have hbs : b < w.heap.size := by
        rw [add_plain, add_plain] at hx
        exact World.block_lt_of_cell? w _ hx
      refine ⟨(List.range len).map f, by simp; omega, ⟨some ⟨b, off, none⟩, cap, by simp, .inr ⟨b, off, rfl, hbs, fun j u hj => ?_⟩⟩, fun p hp => ?_⟩
      · have hl := (List.getElem?_eq_some_iff.1 hj).1
        rw [Rec.flat_len, List.length_map, List.length_range] at hl
        have hn := R.pos
        have hk : j / R.n < len := Nat.div_lt_of_lt_mul (by rw [Nat.mul_comm]; exact hl)
        have hm' : j % R.n < R.n := Nat.mod_lt _ hn
        have e : j = j / R.n * R.n + j % R.n := by have := Nat.div_add_mod j R.n; rw [Nat.mul_comm] at this; omega
        rw [e, Rec.flat_at _ _ _ (by simpa using hk) hm'] at hj
        have e2 : ((List.range len).map f).getD (j / R.n) R.dflt = f (j / R.n) := by simp [List.getD, hk]
        rw [e2] at hj
        have := (hf (j / R.n) hk).1 _ _ hj
        rw [add_plain, add_plain, Nat.add_assoc, ← e] at this
        exact this
      · obtain ⟨i, hi, rfl⟩ := List.mem_map.1 hp
        exact (hf i (List.mem_range.1 hi)).2
end Go.Proofs.Ytnmjhbnadfjapaa
/-
  ROWS OF RECORDS: cut, and appended to own rows of records, whatever they are. No function is named here.
-/
namespace Go.Proofs.Ytnmjhbnadfjapaa
open Go.ChangeShapes Go.WideShapes Go.ChangeAt Go.RowKit

variable {α : Type} {R : Rec α}
theorem SlR.nil (w : World) : SlR R w (.slice none 0 0) [] := ⟨none, 0, rfl, Nat.le_refl _, fun _ => rfl, fun _ e => (by cases e), .inl rfl⟩
theorem SlR.to' {w : World} {g og n cap : Nat} {ps : List α} (h : SlR R w (.slice (some ⟨g, og, none⟩) n cap) ps) (l : Nat) (hl : l ≤ n) : SlR R w (.slice (some ⟨g, og, none⟩) l cap) (ps.take l) := by
  obtain ⟨a, cap', h1, h2, h3, h4, h5⟩ := h
  simp only [Value.slice.injEq] at h1
  obtain ⟨rfl, rfl, rfl⟩ := h1
  have hlen : (ps.take l).length = l := by rw [List.length_take]; omega
  exact ⟨_, cap, by rw [hlen], by rw [hlen]; omega, h3, h4, h5.toR l hl⟩
theorem SlR.from' {w : World} {g og n cap : Nat} {ps : List α} (h : SlR R w (.slice (some ⟨g, og, none⟩) n cap) ps) (l : Nat) (hl : l ≤ n) :
    SlR R w (.slice (if cap = l then some ⟨g, og, none⟩ else some ⟨g, og + l * R.n, none⟩) (n - l) (cap - l)) (ps.drop l) := by
  obtain ⟨a, cap', h1, h2, h3, h4, h5⟩ := h
  simp only [Value.slice.injEq] at h1
  obtain ⟨rfl, rfl, rfl⟩ := h1
  have hlen : (ps.drop l).length = ps.length - l := by rw [List.length_drop]
  have hr := h5.fromR l hl
  simp only [Option.map_some, add_plain] at hr
  by_cases hc : cap = l
  · have hz : ps.length - l = 0 := by omega
    rw [if_pos hc]
    have hd : ps.drop l = [] := List.eq_nil_of_length_eq_zero (by omega)
    refine ⟨_, cap - l, by rw [hlen], by rw [hlen]; omega, fun e => (by cases e), fun _ e => (by cases e; rfl), ?_⟩
    rw [hd]; exact .inl rfl
  · rw [if_neg hc]
    exact ⟨_, cap - l, by rw [hlen], by rw [hlen]; omega, fun e => (by cases e), fun _ e => (by cases e; rfl), hr⟩
theorem SlR.oneR (w : World) (x : α) (e : TypeId) : SlR R (w.alloc (.cells (R.enc x).toArray e)) (.slice (some ⟨w.heap.size, 0, none⟩) 1 1) [x] := by
  refine ⟨_, 1, rfl, Nat.le_refl _, fun e => (by cases e), fun _ h => (by cases h; rfl), .inr ⟨_, _, rfl, by simp, fun j u hj => ?_⟩⟩
  rw [Rec.flat_one] at hj
  have := cells_new w (R.enc x) e j u hj
  rwa [add_plain] at this
theorem SlR.alloc {w : World} {v : Value} {ps : List α} (h : SlR R w v ps) (o : Obj) : SlR R (w.alloc o) v ps := h.below ((Below.refl _ _).alloc (Nat.le_refl _) o)
theorem SlR.grownR {w w' : World} {b off n c : Nat} {ps : List α} {row : Option Nat} (h : SlR R w (.slice (some ⟨b, off, none⟩) n c) ps) (hg : w.grownBy w' row) (hne : row ≠ some b) : SlR R w' (.slice (some ⟨b, off, none⟩) n c) ps := by
  obtain ⟨a, cap, h1, h2, h3, h4, h5⟩ := h
  simp only [Value.slice.injEq] at h1
  obtain ⟨rfl, rfl, rfl⟩ := h1
  refine ⟨_, _, rfl, h2, h3, h4, ?_⟩
  rcases h5 with h5 | ⟨b', o', e, hb, hc⟩
  · exact .inl h5
  · simp only [Option.some.injEq, Addr.mk.injEq, and_true] at e
    obtain ⟨rfl, rfl⟩ := e
    refine .inr ⟨b, off, rfl, Nat.lt_of_lt_of_le hb hg.size, fun j u hj => ?_⟩
    have := hc j u hj
    simp only [World.cell?] at this ⊢
    rw [hg.block b hb (Ne.symm hne)]
    exact this
theorem run_appR {P : Program} (w : World) (base : Nat) (t ty e : TypeId) (i : TypeInfo) (z : Value) (size bytes : Nat) (ht : P.underlying t = some (.slice e)) (hi : P.info? e = some i) (hz : i.zero = some z)
    (hsize : i.size = size) (hby : i.bytes = bytes) (hzs : z.cells.size = size) (hR : R.n = size) {v : Value} {n : Nat} {xs : List Value} (hown : w.ownsRow base e size v n xs) {vx : Value} {qs : List α} (hx : SlR R w vx qs)
    (b1 : n + qs.length ≤ maxLen) (b2 : (n + qs.length) * bytes ≤ 140737488355328) (hbase : base ≤ w.heap.size) :
    ∃ v' w', (Builtin.append_ #[t, t] ty #[v, vx]).run P w = .ok v' w' ∧ w'.ownsRow base e size v' (n + qs.length) (xs ++ R.flat qs) ∧ w.grownBy w' v.ownBlock ∧ (v' = .slice none 0 0 → v = .slice none 0 0) := by
  obtain ⟨a, cap, rfl, hl, hn, hs, hrow⟩ := hx
  have hpos := R.pos
  cases a with
  | none =>
    obtain rfl := hn rfl
    obtain rfl : qs = [] := List.eq_nil_of_length_eq_zero (by omega)
    refine ⟨v, w, run_append_owned_none (P := P) (w := w) base t ty e i size ht hi v n xs hown, by simpa [Rec.flat] using hown, World.grownBy.refl _ _, fun h => h⟩
  | some ad =>
    obtain ⟨b, off, sb⟩ := ad
    obtain rfl : sb = none := hs _ rfl
    have hc : ∀ j u, (R.flat qs)[j]? = some u → w.cell? (Addr.add ⟨b, off, none⟩ j) = some u := fun j u hj => by
      rcases hrow with h0 | ⟨b', off', h1, _, h3⟩
      · rw [h0] at hj; cases hj
      · cases h1; rw [add_plain]; exact h3 j u hj
    obtain ⟨v', w', h1, h2, h3, h4⟩ := run_append_own (P := P) w base t ty e i z size bytes ht hi hz hsize hby hzs (by omega) v n xs hown ⟨b, off, none⟩ qs.length cap (R.flat qs) (by rw [Rec.flat_len, hR]) hc (Rec.flat_one_cell qs) b1 b2 hbase
    exact ⟨v', w', h1, h2, h3, fun h => (h4.1 h).1⟩
/-- append to an own row of records, of whatever slice, as one step of a region that draws. -/
theorem step_appR {P : Program} {ops : Array Oper} {o : Oper} {a : Act} {w : World} {K : Act → World → Prop} {Q : Exit → Act → World → Prop} {E : Prop} (R : Rec α)
    (hg : o.guard = none) (s x : Operand) (t : TypeId) (hop : o.op = Op.call { callee := Callee.builtin Builtin.append, args := #[s, x], argTypes := #[t, t] })
    (base : Nat) (e : TypeId) (i : TypeInfo) (z : Value) (size bytes : Nat) (h1 : P.underlying t = some (.slice e)) (h2 : P.info? e = some i) (h3 : i.zero = some z) (h4 : i.size = size) (h5 : i.bytes = bytes) (h6 : z.cells.size = size) (hR : R.n = size)
    {v : Value} {n : Nat} {xs : List Value} (hs : a.eval s = v) (hown : w.ownsRow base e size v n xs) {vx : Value} {qs : List α} (hx : a.eval x = vx) (hsl : SlR R w vx qs)
    (b1 : n + qs.length ≤ maxLen) (b2 : (n + qs.length) * bytes ≤ 140737488355328) (hbase : base ≤ w.heap.size)
    (hK : ∀ v' w', w'.ownsRow base e size v' (n + qs.length) (xs ++ R.flat qs) → w.grownBy w' v.ownBlock → (v' = .slice none 0 0 → v = .slice none 0 0) → K (a.put o.dst v') w') :
    if Region.wanted o (yielded ops a.tmps) = true then Oper.wp P o a w K Q else E := by
  have hw : Region.wanted o (yielded ops a.tmps) = true := by simp [Region.wanted, hg]
  rw [if_pos hw]
  obtain ⟨v', w', hr, r2, r3, r4⟩ := run_appR (P := P) (R := R) w base t o.type e i z size bytes h1 h2 h3 h4 h5 h6 hR hown hsl b1 b2 hbase
  unfold Oper.wp execOp
  simp only [hop, resolve, invoke, builtin, Sem.run_bind, Sem.run_pure, Result.andThen_ok, List.map_toArray, List.map_cons, List.map_nil, hs, hx, hr]
  exact hK v' w' r2 r3 r4
end Go.Proofs.Ytnmjhbnadfjapaa
