/-
  ROWS OF TEXTS, rising, each once. No function is named here.
-/
import Derived.Test.YtnmjhbnadfjapaaRec
import Derived.Lib.SmallJoins
import Derived.Deep.Strs
import Derived.Test.YtnmjhbnadfjapaaGFew
import Derived.Maps.AppendAt
import Derived.Deep.RegionHeld3
import Derived.Deep.AppendLies
import Derived.Laws.Rows
import Derived.Laws.ResultCell
namespace Go.Proofs.Ytnmjhbnadfjapaa
open Go.ChangeShapes Go.WideShapes Go.ChangeAt Go.RowKit

theorem lt_b_tri : ∀ x y : List UInt8, Op.bytesLess x y = false → Op.bytesLess y x = false → x = y
  | [], [], _, _ => rfl
  | [], _ :: _, h, _ => by simp [Op.bytesLess] at h
  | _ :: _, [], _, h => by simp [Op.bytesLess] at h
  | a :: x, b :: y, h1, h2 => by
    simp only [Op.bytesLess, Bool.or_eq_false_iff, Bool.and_eq_false_iff, decide_eq_false_iff_not, beq_eq_false_iff_ne] at h1 h2
    obtain ⟨h3, h4⟩ := h1
    obtain ⟨h5, h6⟩ := h2
    have e : a = b := UInt8.le_antisymm (UInt8.not_lt.1 h5) (UInt8.not_lt.1 h3)
    subst e
    rw [lt_b_tri x y (by rcases h4 with h | h; exact absurd rfl h; exact h) (by rcases h6 with h | h; exact absurd rfl h; exact h)]
theorem lt_b_irrefl : ∀ x : List UInt8, Op.bytesLess x x = false
  | [] => rfl
  | a :: x => by simp [Op.bytesLess, lt_b_irrefl x]
theorem lt_b_asymm : ∀ x y : List UInt8, Op.bytesLess x y = true → Op.bytesLess y x = false
  | [], [], h => by simp [Op.bytesLess] at h
  | [], _ :: _, _ => by simp [Op.bytesLess]
  | _ :: _, [], h => by simp [Op.bytesLess] at h
  | a :: x, b :: y, h => by
    simp only [Op.bytesLess, Bool.or_eq_true, Bool.and_eq_true, decide_eq_true_eq, beq_iff_eq] at h
    simp only [Op.bytesLess, Bool.or_eq_false_iff, Bool.and_eq_false_iff, decide_eq_false_iff_not, beq_eq_false_iff_ne]
    rcases h with h | ⟨rfl, h⟩
    · exact ⟨fun h' => absurd (UInt8.lt_trans h h') (UInt8.lt_irrefl a), .inl fun e => by subst e; exact UInt8.lt_irrefl _ h⟩
    · exact ⟨UInt8.lt_irrefl a, .inr (lt_b_asymm x y h)⟩
theorem lt_b_trans : ∀ x y z : List UInt8, Op.bytesLess x y = true → Op.bytesLess y z = true → Op.bytesLess x z = true
  | [], [], _, h, _ => by simp [Op.bytesLess] at h
  | [], _ :: _, [], _, h => by simp [Op.bytesLess] at h
  | [], _ :: _, _ :: _, _, _ => by simp [Op.bytesLess]
  | _ :: _, [], _, h, _ => by simp [Op.bytesLess] at h
  | _ :: _, _ :: _, [], _, h => by simp [Op.bytesLess] at h
  | a :: x, b :: y, c :: z, h1, h2 => by
    simp only [Op.bytesLess, Bool.or_eq_true, Bool.and_eq_true, decide_eq_true_eq, beq_iff_eq] at h1 h2 ⊢
    rcases h1 with h1 | ⟨rfl, h1⟩
    · rcases h2 with h2 | ⟨rfl, h2⟩
      · exact .inl (UInt8.lt_trans h1 h2)
      · exact .inl h1
    · rcases h2 with h2 | ⟨rfl, h2⟩
      · exact .inl h2
      · exact .inr ⟨rfl, lt_b_trans x y z h1 h2⟩
/-- Texts, as they lie. -/
def tx (L : List ByteArray) : List Value := L.map Value.string
theorem tx_len (L : List ByteArray) : (tx L).length = L.length := by simp [tx]
theorem tx_one (L : List ByteArray) : ∀ u ∈ tx L, u.oneCell' = true := fun u hu => by
  simp only [tx, List.mem_map] at hu
  obtain ⟨x, _, rfl⟩ := hu
  rfl
theorem tx_at (L : List ByteArray) (d : ByteArray) (k : Nat) (hk : k < L.length) : (tx L)[k]? = some (.string (L.getD k d)) := by simp [tx, hk]
theorem tx_app (L M : List ByteArray) : tx (L ++ M) = tx L ++ tx M := by simp [tx]
def blT (a b : ByteArray) : Bool := Op.bytesLess a.toList b.toList
theorem txt_inj {a b : ByteArray} (h : a.toList = b.toList) : a = b := by
  rw [ByteArray.toList_eq, ByteArray.toList_eq] at h
  obtain ⟨⟨x⟩⟩ := a
  obtain ⟨⟨y⟩⟩ := b
  simp only at h
  rw [h]
/-- Each before the next. -/
def StrictT (L : List ByteArray) : Prop := L.Pairwise fun a b => blT a b = true
theorem StrictT.nodup {L : List ByteArray} (h : StrictT L) : L.Nodup := h.imp fun {a b} hab e => by
  subst e
  have := lt_b_irrefl a.toList
  unfold blT at hab
  rw [hab] at this
  cases this
theorem StrictT.same {L M : List ByteArray} (hL : StrictT L) (hM : StrictT M) (h : ∀ x, x ∈ L ↔ x ∈ M) : L = M := by
  have hp : L.Perm M := (List.perm_ext_iff_of_nodup hL.nodup hM.nodup).2 h
  refine hp.eq_of_pairwise (le := fun a b => blT a b = true) (fun a b _ _ h1 h2 => ?_) hL hM
  have := lt_b_asymm _ _ h1
  unfold blT at h2
  rw [h2] at this
  cases this
/-- What came of one more. -/
structure PutT (s : ByteArray) (L L' : List ByteArray) : Prop where
  strict : StrictT L → StrictT L'
  mem : ∀ x, x ∈ L' ↔ x = s ∨ x ∈ L
  len : L'.length ≤ L.length + 1
theorem getD_memT {L : List ByteArray} {d : ByteArray} {k : Nat} (h : k < L.length) : L.getD k d ∈ L := by
  rw [show L.getD k d = L[k] by simp [List.getD, h]]
  exact List.getElem_mem _
theorem put_same {s d : ByteArray} {L : List ByteArray} {k : Nat} (hk : k < L.length) (he : (L.getD k d).toList = s.toList) : PutT s L L := by
  have he := txt_inj he
  refine ⟨id, fun x => ⟨.inr, fun h => ?_⟩, by omega⟩
  rcases h with rfl | h
  · rw [← he]; exact getD_memT hk
  · exact h
theorem put_new {s d : ByteArray} {L : List ByteArray} {k : Nat} (hk : k ≤ L.length) (hlow : ∀ i, i < k → Op.bytesLess (L.getD i d).toList s.toList = true) (hup : k < L.length → Op.bytesLess (L.getD k d).toList s.toList = false ∧ ¬ (L.getD k d).toList = s.toList) :
    PutT s L (L.take k ++ [s] ++ L.drop k) := by
  refine ⟨fun h => ?_, fun x => ?_, by simp; omega⟩
  · have hcut : StrictT (L.take k ++ L.drop k) := by rw [List.take_append_drop]; exact h
    obtain ⟨h1, h2, h3⟩ := List.pairwise_append.1 hcut
    have hlo : ∀ x ∈ L.take k, blT x s = true := fun x hx => by
      obtain ⟨i, hi, rfl⟩ := List.getElem_of_mem hx
      have hi' : i < k := by rw [List.length_take] at hi; omega
      have := hlow i hi'
      rw [List.getElem_take]
      rwa [show L.getD i d = L[i]'(by omega) by simp [List.getD, show i < L.length by omega]] at this
    have hhi : ∀ x ∈ L.drop k, blT s x = true := fun x hx => by
      have hkl : k < L.length := by
        rcases Nat.lt_or_ge k L.length with h | h
        · exact h
        · rw [List.drop_of_length_le h] at hx; cases hx
      obtain ⟨hb1, hb2⟩ := hup hkl
      have hsy : blT s (L.getD k d) = true := by
        cases hb : blT s (L.getD k d) with
        | true => rfl
        | false => exact absurd (lt_b_tri _ _ hb1 hb) hb2
      have e0 : L.getD k d = L[k] := by simp [List.getD, hkl]
      have ed : L.drop k = L[k] :: L.drop (k + 1) := List.drop_eq_getElem_cons hkl
      rw [ed] at hx h2
      rcases List.mem_cons.1 hx with rfl | hx
      · rwa [e0] at hsy
      · refine lt_b_trans _ _ _ hsy ?_
        rw [e0]
        exact (List.pairwise_cons.1 h2).1 x hx
    refine List.pairwise_append.2 ⟨List.pairwise_append.2 ⟨h1, List.pairwise_singleton _ _, fun a ha b hb => ?_⟩, h2, fun a ha b hb => ?_⟩
    · rw [List.mem_singleton] at hb; subst hb; exact hlo a ha
    · rcases List.mem_append.1 ha with ha | ha
      · exact h3 a ha b hb
      · rw [List.mem_singleton] at ha; subst ha; exact hhi b hb
  · have hm : x ∈ L ↔ x ∈ L.take k ∨ x ∈ L.drop k := by rw [← List.mem_append, List.take_append_drop]
    rw [hm, List.mem_append, List.mem_append, List.mem_singleton]
    constructor
    · rintro ((h | h) | h)
      · exact .inr (.inl h)
      · exact .inl h
      · exact .inr (.inr h)
    · rintro (h | h | h)
      · exact .inl (.inr h)
      · exact .inl (.inl h)
      · exact .inr h
end Go.Proofs.Ytnmjhbnadfjapaa
/-
  EXPRESSIONS IN MEMORY: what one holds, whose parts lie in rows of their own; one that came in. No function is named here.
-/
namespace Go.Proofs.Ytnmjhbnadfjapaa
open Go.ChangeShapes Go.WideShapes Go.ChangeAt Go.RowKit

/-- An expression. -/
inductive Rx where
  | mk (k : Int) (s : ByteArray) (b : Bool) (ps : List Rx)
def Rx.k : Rx → Int | .mk k _ _ _ => k
def Rx.s : Rx → ByteArray | .mk _ s _ _ => s
def Rx.b : Rx → Bool | .mk _ _ b _ => b
def Rx.ps : Rx → List Rx | .mk _ _ _ ps => ps
def Rx.none : Rx := .mk 0 ⟨#[]⟩ false []
/-- An expression as it lies: its kind, its step, and where its parts are. -/
structure RxV where
  k : Int
  s : ByteArray
  b : Bool
  a : Option Addr
  n : Nat
  c : Nat
def RxV.none : RxV := ⟨0, ⟨#[]⟩, false, .none, 0, 0⟩
def rxR : Rec RxV := ⟨fun x => [.int .i64 x.k, .string x.s, .bool x.b, .slice x.a x.n x.c], 4, by decide, fun _ => rfl, fun x u hu => by simp at hu; rcases hu with rfl | rfl | rfl | rfl <;> rfl, RxV.none⟩
/-- Cells that lie in a block of which ok says so. -/
def RowOk (ok : Nat → Prop) (w : World) (a : Option Addr) (xs : List Value) : Prop := xs = [] ∨ ∃ b off, a = some ⟨b, off, none⟩ ∧ ok b ∧ b < w.heap.size ∧ ∀ j u, xs[j]? = some u → w.cell? ⟨b, off + j, none⟩ = some u
theorem RowOk.kept {ok ok' : Nat → Prop} {w w' : World} {a : Option Addr} {xs : List Value} (h : RowOk ok w a xs) (hb : ∀ b, ok b → b < w.heap.size → ok' b ∧ b < w'.heap.size ∧ w'.heap[b]? = w.heap[b]?) : RowOk ok' w' a xs := by
  rcases h with h | ⟨b, off, h1, h2, h3, h4⟩
  · exact .inl h
  · obtain ⟨k1, k2, k3⟩ := hb b h2 h3
    exact .inr ⟨b, off, h1, k1, k2, fun j u hj => (World.cell?_of_block k3).trans (h4 j u hj)⟩
theorem RowOk.row {ok : Nat → Prop} {w : World} {a : Option Addr} {xs : List Value} (h : RowOk ok w a xs) : RowAt w a xs := by
  rcases h with h | ⟨b, off, h1, _, h3, h4⟩
  · exact .inl h
  · exact .inr ⟨b, off, h1, h3, h4⟩
/-- What is held, so deep at most, in blocks of which ok says so. -/
def HeldX (ok : Nat → Prop) (w : World) : Nat → RxV → Rx → Prop
  | 0, _, _ => False
  | d + 1, v, r => v.k = r.k ∧ v.s = r.s ∧ v.b = r.b ∧ v.s.size ≤ maxLen ∧ v.n = r.ps.length ∧ ∃ vs, vs.length = r.ps.length ∧ RowOk ok w v.a (rxR.flat vs) ∧ ∀ i, i < r.ps.length → HeldX ok w d (vs.getD i RxV.none) (r.ps.getD i Rx.none)
theorem HeldX.mono {ok : Nat → Prop} {w : World} : ∀ {d : Nat} {v : RxV} {r : Rx}, HeldX ok w d v r → HeldX ok w (d + 1) v r
  | _ + 1, _, _, ⟨h1, h2, h3, h4, h5, vs, h6, h7, h8⟩ => ⟨h1, h2, h3, h4, h5, vs, h6, h7, fun i hi => HeldX.mono (h8 i hi)⟩
theorem HeldX.le {ok : Nat → Prop} {w : World} {d e : Nat} {v : RxV} {r : Rx} (h : HeldX ok w d v r) (hde : d ≤ e) : HeldX ok w e v r := by
  induction hde with
  | refl => exact h
  | step _ ih => exact ih.mono
theorem HeldX.kept {ok ok' : Nat → Prop} {w w' : World} (hb : ∀ b, ok b → b < w.heap.size → ok' b ∧ b < w'.heap.size ∧ w'.heap[b]? = w.heap[b]?) : ∀ {d : Nat} {v : RxV} {r : Rx}, HeldX ok w d v r → HeldX ok' w' d v r
  | _ + 1, _, _, ⟨h1, h2, h3, h4, h5, vs, h6, h7, h8⟩ => ⟨h1, h2, h3, h4, h5, vs, h6, h7.kept hb, fun i hi => HeldX.kept hb (h8 i hi)⟩
theorem HeldX.below {ok : Nat → Prop} {w w' : World} {d : Nat} {v : RxV} {r : Rx} (h : HeldX ok w d v r) (hB : Below w.heap.size w w') : HeldX ok w' d v r :=
  h.kept fun b h1 h2 => ⟨h1, Nat.lt_of_lt_of_le h2 hB.size, hB.block b h2⟩
theorem HeldX.weak {ok ok' : Nat → Prop} {w : World} {d : Nat} {v : RxV} {r : Rx} (h : HeldX ok w d v r) (ho : ∀ b, ok b → b < w.heap.size → ok' b) : HeldX ok' w d v r :=
  h.kept fun b h1 h2 => ⟨ho b h1 h2, h2, rfl⟩
/-- A part at its place. -/
theorem HeldX.at {ok : Nat → Prop} {w : World} {d : Nat} {v : RxV} {r : Rx} (h : HeldX ok w (d + 1) v r) {k : Nat} (hk : k < r.ps.length) :
    ∃ b off x, v.a = some ⟨b, off, none⟩ ∧ b < w.heap.size ∧ w.cell? ⟨b, off + k * 4, none⟩ = some (.int .i64 x.k) ∧ w.cell? ⟨b, off + k * 4 + 1, none⟩ = some (.string x.s) ∧ w.cell? ⟨b, off + k * 4 + 2, none⟩ = some (.bool x.b) ∧ w.cell? ⟨b, off + k * 4 + 3, none⟩ = some (.slice x.a x.n x.c) ∧ HeldX ok w d x (r.ps.getD k Rx.none) := by
  obtain ⟨_, _, _, _, _, vs, h6, h7, h8⟩ := h
  obtain ⟨b, off, h1, h2, h3⟩ := rec_at h7.row (k := k) (by omega)
  exact ⟨b, off, vs.getD k RxV.none, h1, h2, h3 0 _ rfl, h3 1 _ rfl, h3 2 _ rfl, h3 3 _ rfl, h8 k hk⟩
/-- All of some are held at one depth. -/
theorem heldX_all {ok : Nat → Prop} {w : World} {f : Nat → RxV} {g : Nat → Rx} : ∀ n : Nat, (∀ i, i < n → ∃ d, HeldX ok w d (f i) (g i)) → ∃ D, ∀ i, i < n → HeldX ok w D (f i) (g i)
  | 0, _ => ⟨0, fun i hi => by omega⟩
  | n + 1, h => by
    obtain ⟨D, hD⟩ := heldX_all n fun i hi => h i (by omega)
    obtain ⟨d, hd⟩ := h n (by omega)
    refine ⟨max D d, fun i hi => ?_⟩
    by_cases e : i = n
    · subst e; exact hd.le (Nat.le_max_right _ _)
    · exact (hD i (by omega)).le (Nat.le_max_left _ _)
/-- Elements of a slice that lies in what came in, each got with less fuel. -/
theorem open_recsF {α : Type} {R : Rec α} {H : Type} {enc : TypeId × Value → H} {P : Program} {w : World} {sp : Nat → Bool} {held : Bool} {st e : TypeId} {v : Value} {fuel : Nat} {x : DataW H × List MemPlace} {ok : α → Prop}
    (hst : P.underlying st = some (.slice e)) (hc : P.cellsOf e = R.n) (hdec : ∀ n cs x, n < fuel → cs.length = R.n → DataW.trod enc P w 0 sp held n e cs = some x → ∃ p, cs = R.enc p ∧ ok p)
    (hf : DataW.trod enc P w 0 sp held fuel st [v] = some x) : ∃ (ps : List α) (a : Option Addr) (c : Nat), v = .slice a ps.length c ∧ ps.length ≤ maxLen ∧ HoldsR R w v ps ∧ ∀ p ∈ ps, ok p := by
  rcases DataW.trod_slice hst hf with ⟨hcs, _⟩ | ⟨a, len, cap, elems, rest, n, hfu, hcs, _, _, hl, hm, hlen, hel, _, _⟩
  · simp only [List.cons.injEq, and_true] at hcs
    subst hcs
    exact ⟨[], .none, 0, rfl, by unfold maxLen; simp, ⟨.none, 0, rfl, .inl rfl⟩, fun _ h => by cases h⟩
  · simp only [List.cons.injEq, and_true] at hcs
    subst hcs
    have each : ∀ i, ∃ p : α, i < len → (∀ j u, (R.enc p)[j]? = some u → w.cell? ((a.add (i * R.n)).add j) = some u) ∧ ok p := by
      intro i
      by_cases hi : i < len
      · have hb := hel i hi
        rw [List.getElem?_eq_getElem (by omega), hc, Option.bind_eq_some_iff] at hb
        obtain ⟨cs', hcs', hy⟩ := hb
        obtain ⟨_, hcl, hcc⟩ := World.cells?_some hcs'
        obtain ⟨p, rfl, hp⟩ := hdec n _ _ (by omega) hcl hy
        exact ⟨p, fun _ => ⟨fun j u hu => by
          have hj := (List.getElem?_eq_some_iff.1 hu).1
          rw [R.len] at hj
          exact (hcc j hj).trans hu, hp⟩⟩
      · exact ⟨R.dflt, fun h => absurd h hi⟩
    obtain ⟨f, hf⟩ := Classical.skolem.1 each
    obtain ⟨b, off, o⟩ := a
    by_cases hz : len = 0
    · subst hz
      exact ⟨[], _, cap, rfl, by unfold maxLen; simp, ⟨_, cap, rfl, .inl rfl⟩, fun _ h => by cases h⟩
    · have h0 : 0 < (R.enc (f 0)).length := by rw [R.len]; exact R.pos
      have hx := (hf 0 (by omega)).1 0 _ (List.getElem?_eq_getElem h0)
      obtain rfl : o = .none := by
        cases o with
        | none => rfl
        | some u => exact absurd hx (by simp only [Addr.add, World.cell?]; split <;> simp)
      have hbs : b < w.heap.size := by
        rw [add_plain, add_plain] at hx
        exact World.block_lt_of_cell? w _ hx
      refine ⟨(List.range len).map f, _, cap, by simp; rfl, by simp; omega, ⟨some ⟨b, off, .none⟩, cap, by simp, .inr ⟨b, off, rfl, hbs, fun j u hj => ?_⟩⟩, fun p hp => ?_⟩
      · have hl := (List.getElem?_eq_some_iff.1 hj).1
        rw [Rec.flat_len, List.length_map, List.length_range] at hl
        have hn := R.pos
        have hk : j / R.n < len := Nat.div_lt_of_lt_mul (by rw [Nat.mul_comm]; exact hl)
        have hm' : j % R.n < R.n := Nat.mod_lt _ hn
        have e : j = j / R.n * R.n + j % R.n := by have := Nat.div_add_mod j R.n; rw [Nat.mul_comm] at this; omega
        rw [e, Rec.flat_at _ _ _ (by simpa using hk) hm'] at hj
        have e2 : ((List.range len).map f).getD (j / R.n) R.dflt = f (j / R.n) := by simp [List.getD, hk]
        rw [e2] at hj
        have := (hf (j / R.n) hk).1 _ _ hj
        rw [add_plain, add_plain, Nat.add_assoc, ← e] at this
        exact this
      · obtain ⟨i, hi, rfl⟩ := List.mem_map.1 hp
        exact (hf i (List.mem_range.1 hi)).2
/-- An expression that lies in what came in. -/
theorem open_rxF {H : Type} {enc : TypeId × Value → H} {P : Program} {w : World} {sp : Nat → Bool} {held : Bool} {t : TypeId} {f0 f1 f2 s0 s1 : Field}
    (ht : P.underlying t = some (.struct #[f0, f1, f2])) (h0 : P.underlying f0.type = some (.int .i64)) (h1 : P.underlying f1.type = some (.struct #[s0, s1])) (h2 : P.underlying f2.type = some (.slice t))
    (i0 : P.underlying s0.type = some .string) (i1 : P.underlying s1.type = some .bool)
    (hc : P.cellsOf t = 4) (o0 : f0.offset = 0) (o1 : f1.offset = 1) (o2 : f2.offset = 3) (c0 : P.cellsOf f0.type = 1) (c1 : P.cellsOf f1.type = 2) (c2 : P.cellsOf f2.type = 1) (q0 : s0.offset = 0) (q1 : s1.offset = 1) (d0 : P.cellsOf s0.type = 1) (d1 : P.cellsOf s1.type = 1) :
    ∀ (fuel : Nat) (cs : List Value) (x : DataW H × List MemPlace), cs.length = 4 → DataW.trod enc P w 0 sp held fuel t cs = some x → ∃ v : RxV, cs = rxR.enc v ∧ ∃ d r, HeldX (fun _ => True) w d v r := by
  intro fuel
  induction fuel using Nat.strongRecOn with
  | ind fuel ih =>
    intro cs x hl hx
    match cs, hl with
    | [a0, a1, a2, a3], _ =>
      obtain ⟨xs, n, hfu, _, _, hlen, hf⟩ := DataW.trod_struct ht hx
      have g0 := hf 0 f0 rfl
      have g1 := hf 1 f1 rfl
      have g2 := hf 2 f2 rfl
      rw [o0, c0] at g0
      rw [o1, c1] at g1
      rw [o2, c2] at g2
      match xs, hlen with
      | [y0, y1, y2], _ =>
        simp only [List.drop_zero, List.take_succ_cons, List.take_zero, List.drop_succ_cons, List.getElem?_cons_zero, List.getElem?_cons_succ] at g0 g1 g2
        obtain ⟨m0, b0, _, _⟩ := DataW.trod_int h0 g0
        obtain ⟨_, _, _, _, _, r0, r1⟩ := trod_struct2 h1 g1
        rw [q0, d0] at r0
        rw [q1, d1] at r1
        obtain ⟨m1, b1, _, hsz⟩ := DataW.trod_string i0 r0
        obtain ⟨m2, b2, _⟩ := DataW.trod_bool i1 r1
        simp only [List.drop_zero, List.take_succ_cons, List.take_zero, List.cons.injEq, and_true, List.drop_succ_cons] at b0 b1 b2
        subst b0 b1 b2
        obtain ⟨vs, a, c, rfl, hm, hh, hw⟩ := open_recsF (R := rxR) (ok := fun v => ∃ d r, HeldX (fun _ => True) w d v r) h2 hc (fun n' cs' x' hn' hl' hx' => ih n' (by omega) cs' x' hl' hx') g2
        have hch : ∀ i : Nat, ∃ q : Nat × Rx, i < vs.length → HeldX (fun _ => True) w q.1 (vs.getD i RxV.none) q.2 := fun i => by
          by_cases hi : i < vs.length
          · have e : vs.getD i RxV.none = vs[i] := by simp [List.getD, hi]
            obtain ⟨d, r, h⟩ := hw _ (List.getElem_mem hi)
            exact ⟨(d, r), fun _ => by rw [e]; exact h⟩
          · exact ⟨(0, Rx.none), fun h => absurd h hi⟩
        obtain ⟨f, hf⟩ := Classical.skolem.1 hch
        obtain ⟨D, hD⟩ := heldX_all (ok := fun _ => True) (w := w) (f := fun i => vs.getD i RxV.none) (g := fun i => (f i).2) vs.length fun i hi => ⟨(f i).1, hf i hi⟩
        refine ⟨⟨m0, m1, m2, a, vs.length, c⟩, rfl, D + 1, .mk m0 m1 m2 ((List.range vs.length).map fun i => (f i).2), rfl, rfl, rfl, hsz, by simp [Rx.ps], vs, by simp [Rx.ps], ?_, fun i hi => ?_⟩
        · obtain ⟨a', c', e, hr⟩ := hh
          simp only [Value.slice.injEq] at e
          obtain ⟨rfl, _, _⟩ := e
          rcases hr with h | ⟨b, off, k1, k2, k3⟩
          · exact .inl h
          · exact .inr ⟨b, off, k1, trivial, k2, k3⟩
        have hi' : i < vs.length := by simpa [Rx.ps] using hi
        have e : (Rx.mk m0 m1 m2 ((List.range vs.length).map fun i => (f i).2)).ps.getD i Rx.none = (f i).2 := by simp [Rx.ps, List.getD, hi']
        rw [e]
        exact hD i hi'
theorem open_rx {H : Type} {enc : TypeId × Value → H} {P : Program} {w : World} {sp : Nat → Bool} {held : Bool} {t : TypeId} {f0 f1 f2 s0 s1 : Field} {v : Value} {d : DataW H} {qs : List MemPlace} {r : Reach} {b0 : Nat}
    (ht : P.underlying t = some (.struct #[f0, f1, f2])) (h0 : P.underlying f0.type = some (.int .i64)) (h1 : P.underlying f1.type = some (.struct #[s0, s1])) (h2 : P.underlying f2.type = some (.slice t))
    (i0 : P.underlying s0.type = some .string) (i1 : P.underlying s1.type = some .bool) (hagg : (match P.underlying t with | some (.struct _) | some (.array _ _) => true | _ => false) = true)
    (hc : P.cellsOf t = 4) (o0 : f0.offset = 0) (o1 : f1.offset = 1) (o2 : f2.offset = 3) (c0 : P.cellsOf f0.type = 1) (c1 : P.cellsOf f1.type = 2) (c2 : P.cellsOf f2.type = 1) (q0 : s0.offset = 0) (q1 : s1.offset = 1) (d0 : P.cellsOf s0.type = 1) (d1 : P.cellsOf s1.type = 1)
    (hval : Value.okWide P w r b0 t v) (h : DataW.Trod enc P w 0 sp held t v d qs) : ∃ (x : RxV) (D : Nat) (r : Rx), v = .agg #[.int .i64 x.k, .string x.s, .bool x.b, .slice x.a x.n x.c] ∧ HeldX (fun _ => True) w D x r := by
  obtain ⟨l, hl, rfl, _⟩ := GoX.arg_agg hagg hc hval
  obtain ⟨fuel, hf⟩ := h
  match l, hl with
  | [a0, a1, a2, a3], hl =>
    obtain ⟨x, hx, D, r, hr⟩ := open_rxF ht h0 h1 h2 i0 i1 hc o0 o1 o2 c0 c1 c2 q0 q1 d0 d1 fuel [a0, a1, a2, a3] _ hl (show DataW.trod enc P w 0 sp held fuel t [a0, a1, a2, a3] = some _ from hf)
    simp only [rxR, List.cons.injEq, and_true] at hx
    obtain ⟨rfl, rfl, rfl, rfl⟩ := hx
    exact ⟨x, D, r, rfl, hr⟩
end Go.Proofs.Ytnmjhbnadfjapaa
/-
  AN EXPRESSION COPIED, somewhat cut: by contract.
-/
namespace Go.Proofs.Ytnmjhbnadfjapaa
open Go.ChangeShapes Go.WideShapes Go.ChangeAt Go.RowKit

theorem own_other {w w' : World} {B t s n : Nat} {v : Value} {xs : List Value} {o : Option Nat} (h : w.ownsRow B t s v n xs) (hg : w.grownBy w' o) (hne : ∀ g, v.ownBlock = some g → o ≠ some g) : w'.ownsRow B t s v n xs := by
  obtain ⟨hl, h⟩ := h
  refine ⟨hl, ?_⟩
  rcases h with h | ⟨g, cap, cur, e1, e2, e3, e4⟩
  · exact .inl h
  · exact .inr ⟨g, cap, cur, e1, e2, (hg.block g (Array.getElem?_eq_some_iff.1 e3).1 (Ne.symm (hne g (by rw [e1]; rfl)))).trans e3, e4⟩
theorem step_append_own_at {P : Program} {ops : Array Oper} {o : Oper} {a : Act} {w : World} {K : Act → World → Prop} {Q : Exit → Act → World → Prop} {E : Prop}
    (hg : o.guard = none) (s x : Operand) (t : TypeId) (hop : o.op = Op.call { callee := Callee.builtin Builtin.append, args := #[s, x], argTypes := #[t, t] })
    (base : Nat) (e : TypeId) (i : TypeInfo) (z : Value) (size bytes : Nat) (h1 : P.underlying t = some (.slice e)) (h2 : P.info? e = some i) (h3 : i.zero = some z) (h4 : i.size = size) (h5 : i.bytes = bytes) (h6 : z.cells.size = size) (h7 : 0 < size)
    (v : Value) (n : Nat) (xs : List Value) (hs : a.eval s = v) (hown : w.ownsRow base e size v n xs)
    (ad : Addr) (m c : Nat) (news : List Value) (hx : a.eval x = .slice (some ad) m c) (hn : news.length = m * size) (hc : ∀ j u, news[j]? = some u → w.cell? (ad.add j) = some u) (h1c : ∀ u ∈ news, u.oneCell' = true)
    (b1 : n + m ≤ maxLen) (b2 : (n + m) * bytes ≤ 140737488355328) (hbase : base ≤ w.heap.size)
    (hK : ∀ v' w', w'.ownsRow base e size v' (n + m) (xs ++ news) → w.grownBy w' v.ownBlock → (v'.ownBlock = v.ownBlock ∨ v'.ownBlock = some w.heap.size) → K (a.put o.dst v') w') :
    if Region.wanted o (yielded ops a.tmps) = true then Oper.wp P o a w K Q else E := by
  refine step_wp hg ?_
  obtain ⟨v', w', hr, r2, r3, _, r5⟩ := run_append_own_at (P := P) w base t o.type e i z size bytes h1 h2 h3 h4 h5 h6 h7 v n xs hown ad m c news hn hc h1c b1 b2 hbase
  unfold Oper.wp execOp
  simp only [hop, resolve, invoke, builtin, Sem.run_bind, Sem.run_pure, Result.andThen_ok, List.map_toArray, List.map_cons, List.map_nil, hs, hx, hr]
  exact hK _ _ r2 r3 r5
theorem heap_setX {x : World} {b : Nat} {cs : Array Value} {t : TypeId} (h : x.heap[b]? = some (.cells cs t)) (j : Nat) (v : Value) : (x.setCell ⟨b, j, none⟩ v).heap[b]? = some (.cells (cs.setIfInBounds j v) t) := by
  simp [World.setCell, Array.getElem?_modify, h]
theorem heap_oX {x : World} {p : Addr} {v : Value} {b : Nat} (h : p.block ≠ b) : (x.setCell p v).heap[b]? = x.heap[b]? := by
  simp [World.setCell, Array.getElem?_modify, h]
theorem blk_below {w w' : World} {b : Nat} {o : Obj} (h : w.heap[b]? = some o) (hB : Below w.heap.size w w') : w'.heap[b]? = some o := (hB.block _ (Array.getElem?_eq_some_iff.1 h).1).trans h
/-- An expression, so deep at most, its steps cut. -/
def Rx.few : Nat → Rx → Rx
  | 0, r => .mk r.k (cutB r.s 32) r.b []
  | d + 1, r => .mk r.k (cutB r.s 32) r.b ((r.ps.take 3).map (Rx.few d))
theorem Rx.few_at (d : Nat) (r : Rx) : (Rx.few d r).k = r.k ∧ (Rx.few d r).s = cutB r.s 32 ∧ (Rx.few d r).b = r.b := by
  cases d <;> exact ⟨rfl, rfl, rfl⟩
theorem infoX : (Try.prog.info? 112).map (fun i => (i.zero, i.size, i.bytes)) = some (some (.agg #[.int .i64 0, .string ⟨#[]⟩, .bool false, .slice none 0 0]), 4, 56) := by kernel_rfl
abbrev TX : TypeId := 112
/-- While parts are copied: those that are there. -/
structure XF (w : World) (xa : Array Value) (k0 : Int) (s0 : ByteArray) (b0 : Bool) (d : Nat) (ps : List Rx) (k : Nat) (u : Value) (vs : List RxV) (x : World) : Prop where
  below : Below w.heap.size w x
  hx : x.heap[w.heap.size]? = some (.cells xa TX)
  hr : x.heap[w.heap.size + 1]? = some (.cells #[.int .i64 0, .string ⟨#[]⟩, .bool false, .slice none 0 0] TX)
  ho : x.heap[w.heap.size + 2]? = some (.cells #[.int .i64 k0, .string s0, .bool b0, u] TX)
  row : x.ownsRow (w.heap.size + 3) TX 4 u k (rxR.flat vs)
  len : vs.length = k
  each : ∀ i, i < k → HeldX (fun b => w.heap.size + 3 ≤ b ∧ u.ownBlock ≠ some b) x d (vs.getD i RxV.none) ((ps.getD i Rx.none).few (d - 1))
theorem XF.step {w : World} {xa : Array Value} {k0 : Int} {s0 : ByteArray} {b0 : Bool} {d : Nat} {ps : List Rx} {k : Nat} {u : Value} {vs : List RxV} {x z : World} (h : XF w xa k0 s0 b0 d ps k u vs x) (hB : Below x.heap.size x z) : XF w xa k0 s0 b0 d ps k u vs z :=
  ⟨h.below.trans (hB.mono h.below.size), blk_below h.hx hB, blk_below h.hr hB, blk_below h.ho hB, owns_keep h.row hB, h.len, fun i hi => (h.each i hi).below hB⟩
theorem XF.drew {w : World} {xa : Array Value} {k0 : Int} {s0 : ByteArray} {b0 : Bool} {d : Nat} {ps : List Rx} {k : Nat} {u : Value} {vs : List RxV} {x : World} (h : XF w xa k0 s0 b0 d ps k u vs x) : XF w xa k0 s0 b0 d ps k u vs x.drew :=
  h.step (Below.refl _ _).drew
/-- One part more. -/
theorem XF.more {w : World} {xa : Array Value} {k0 : Int} {s0 : ByteArray} {b0 : Bool} {d : Nat} {ps : List Rx} {k : Nat} {u v' : Value} {vs : List RxV} {x zA w6 : World} {q : RxV} (h : XF w xa k0 s0 b0 d ps k u vs x) (hs : w.heap.size + 3 ≤ x.heap.size) (hz : Below x.heap.size x zA) (hq : HeldX (fun b => x.heap.size ≤ b) zA d q ((ps.getD k Rx.none).few (d - 1)))
    (ho : w6.ownsRow (w.heap.size + 3) TX 4 v' (k + 1) (rxR.flat vs ++ rxR.enc q)) (hg : zA.grownBy w6 u.ownBlock) (hat : v'.ownBlock = u.ownBlock ∨ v'.ownBlock = some zA.heap.size) :
    XF w xa k0 s0 b0 d ps (k + 1) v' (vs ++ [q]) (w6.setCell ⟨w.heap.size + 2, 3, none⟩ v') := by
  have hA := h.step hz
  have hsz := hz.size
  have hub : ∀ g, u.ownBlock = some g → w.heap.size + 3 ≤ g ∧ g < x.heap.size := fun g e => h.row.lt g e
  have hlt3 : ∀ b, b < w.heap.size + 3 → w6.heap[b]? = zA.heap[b]? := fun b hb => hg.block b (by omega) fun e => by have := (hub b e.symm).1; omega
  have ho6 : w6.heap[w.heap.size + 2]? = some (.cells #[.int .i64 k0, .string s0, .bool b0, u] TX) := (hlt3 _ (by omega)).trans hA.ho
  have hvb : ∀ g, v'.ownBlock = some g → w.heap.size + 3 ≤ g := fun g e => (ho.lt g e).1
  have hkp : ∀ b, b ≠ w.heap.size + 2 → u.ownBlock ≠ some b → b < zA.heap.size → (w6.setCell ⟨w.heap.size + 2, 3, none⟩ v').heap[b]? = zA.heap[b]? := fun b h1 h2 h3 => (heap_oX (Ne.symm h1)).trans (hg.block b h3 fun e => h2 e.symm)
  have hsz6 : zA.heap.size ≤ (w6.setCell ⟨w.heap.size + 2, 3, none⟩ v').heap.size := by simpa [World.setCell] using hg.size
  refine ⟨?_, (heap_oX (by simp)).trans ((hlt3 _ (by omega)).trans hA.hx), (heap_oX (by simp)).trans ((hlt3 _ (by omega)).trans hA.hr), by rw [heap_setX ho6 3 _]; rfl, ?_, by simp [h.len], fun i hi => ?_⟩
  · refine ((hA.below).grown hg (Nat.le_trans h.below.size hsz) fun g e => by have := (hub g e).1; omega).setCell (p := ⟨w.heap.size + 2, 3, none⟩) (Nat.le_add_right _ _) _
  · have e : rxR.flat (vs ++ [q]) = rxR.flat vs ++ rxR.enc q := by rw [Rec.flat_app]; simp [Rec.flat]
    rw [e]
    obtain ⟨hl, hr⟩ := ho
    refine ⟨hl, ?_⟩
    rcases hr with hr | ⟨g, cap, cur, e1, e2, e3, e4⟩
    · exact .inl hr
    · exact .inr ⟨g, cap, cur, e1, e2, (heap_oX (show w.heap.size + 2 ≠ g by omega)).trans e3, e4⟩
  · by_cases e : i = k
    · subst e
      have e : (vs ++ [q]).getD i RxV.none = q := by simp [List.getD, h.len]
      rw [e]
      refine hq.kept fun b h1 h2 => ?_
      have h4 : u.ownBlock ≠ some b := fun e => by have := (hub b e).2; omega
      refine ⟨⟨by omega, fun e => ?_⟩, Nat.lt_of_lt_of_le h2 hsz6, hkp b (by omega) h4 h2⟩
      rcases hat with e' | e'
      · exact h4 (e' ▸ e)
      · rw [e'] at e; injection e with e; omega
    · have hi' : i < vs.length := by have := h.len; omega
      have e : (vs ++ [q]).getD i RxV.none = vs.getD i RxV.none := by simp [List.getD, List.getElem?_append_left hi']
      rw [e]
      refine (hA.each i (by omega)).kept fun b h1 h2 => ⟨⟨h1.1, fun e => ?_⟩, Nat.lt_of_lt_of_le h2 hsz6, hkp b (by omega) h1.2 h2⟩
      rcases hat with e' | e'
      · exact h1.2 (e' ▸ e)
      · rw [e'] at e; injection e with e; omega
/-- What is left at last. -/
theorem XF.done {w : World} {xa : Array Value} {r : Rx} {d k : Nat} {u : Value} {vs : List RxV} {x : World} (h : XF w xa r.k (cutB r.s 32) r.b d r.ps k u vs x) (hk : (d = 0 ∧ k = 0) ∨ (0 < d ∧ k = min 3 r.ps.length)) {a : Option Addr} {c : Nat} (hu : u = .slice a k c) (hsz : (cutB r.s 32).size ≤ maxLen) :
    HeldX (fun b => w.heap.size + 3 ≤ b) x (d + 1) ⟨r.k, cutB r.s 32, r.b, a, k, c⟩ (r.few d) := by
  obtain ⟨e1, e2, e3⟩ := Rx.few_at d r
  have hps : (r.few d).ps.length = k ∧ ∀ i, i < k → (r.few d).ps.getD i Rx.none = (r.ps.getD i Rx.none).few (d - 1) := by
    rcases hk with ⟨rfl, rfl⟩ | ⟨h0, rfl⟩
    · exact ⟨rfl, fun i hi => by omega⟩
    · obtain ⟨d', rfl⟩ : ∃ d', d = d' + 1 := ⟨d - 1, by omega⟩
      refine ⟨by simp [Rx.few, Rx.ps], fun i hi => ?_⟩
      have hi1 : i < r.ps.length := by omega
      have hi2 : i < 3 := by omega
      simp [Rx.few, Rx.ps, List.getD, hi2]
      cases r
      simp [Rx.ps] at hi1 ⊢
      simp [hi1]
  refine ⟨e1.symm, e2.symm, e3.symm, hsz, hps.1.symm, vs, by rw [h.len, hps.1], ?_, fun i hi => ?_⟩
  · rcases h.row.2 with ⟨_, h0⟩ | ⟨g, cap, cur, h1, h2, h3, h4, h5, h6, h7⟩
    · left
      have hl := h.row.1
      rw [h0] at hl
      exact List.eq_nil_of_length_eq_zero (by omega)
    · rw [hu] at h1
      simp only [Value.slice.injEq] at h1
      obtain ⟨rfl, _, _⟩ := h1
      refine .inr ⟨g, 0, rfl, by omega, (Array.getElem?_eq_some_iff.1 h3).1, fun j v hj => ?_⟩
      rw [Nat.zero_add]
      have hjl := (List.getElem?_eq_some_iff.1 hj).1
      have hl := h.row.1
      rw [← h7, List.getElem?_take_of_lt (by omega), Array.getElem?_toList] at hj
      simp only [World.cell?, h3]
      exact hj
  · rw [hps.1] at hi
    rw [hps.2 i hi]
    exact (h.each i hi).weak fun b h1 _ => h1.1
end Go.Proofs.Ytnmjhbnadfjapaa
/-
  AN EXPRESSION COPIED, somewhat cut: few, by contract.
-/
namespace Go.Proofs.Ytnmjhbnadfjapaa
open Go.ChangeShapes Go.WideShapes Go.ChangeAt Go.RowKit

theorem two3 (w : World) (a b c : Obj) : (((w.alloc a).alloc b).alloc c).heap[w.heap.size]? = some a ∧ (((w.alloc a).alloc b).alloc c).heap[w.heap.size + 1]? = some b ∧ (((w.alloc a).alloc b).alloc c).heap[w.heap.size + 2]? = some c ∧ Below w.heap.size w (((w.alloc a).alloc b).alloc c) := by
  refine ⟨?_, ?_, ?_, (((Below.refl _ _).alloc (Nat.le_refl _) _).alloc (by show _ ≤ (w.heap.push _).size; simp) _).alloc (by show _ ≤ ((w.heap.push _).push _).size; simp; omega) _⟩
  · show (((w.heap.push _).push _).push _)[_]? = _
    rw [Array.getElem?_push, if_neg (by simp; omega), Array.getElem?_push, if_neg (by simp), Array.getElem?_push, if_pos rfl]
  · show (((w.heap.push _).push _).push _)[_]? = _
    rw [Array.getElem?_push, if_neg (by simp), Array.getElem?_push, if_pos (by simp)]
  · show (((w.heap.push _).push _).push _)[_]? = _
    rw [Array.getElem?_push, if_pos (by simp)]
set_option maxHeartbeats 6400000 in
set_option maxRecDepth 100000 in
theorem rxfew_c : ∀ (d : Nat), d ≤ 100 → ∀ (D : Nat) (ok : Nat → Prop) (v : RxV) (r : Rx) (w : World), HeldX ok w D v r →
    Calls Try.prog 74 #[.agg #[.int .i64 v.k, .string v.s, .bool v.b, .slice v.a v.n v.c], .int .i64 ((d + 1 : Nat) : Int)] w fun e w' => ∃ q : RxV, e = .returned (.agg #[.int .i64 q.k, .string q.s, .bool q.b, .slice q.a q.n q.c]) ∧ HeldX (fun g => w.heap.size ≤ g) w' (d + 1) q (r.few d) ∧ Below w.heap.size w w' := by
  intro d
  induction d using Nat.strongRecOn with
  | ind d ih =>
    intro hd D ok v r w hv
    obtain ⟨i0, hi, hz0, hz1, hz2⟩ := info_parts infoX
    cases D with
    | zero => exact absurd hv (fun h => h)
    | succ D =>
      have hv0 := hidden hv
      obtain ⟨hk, hs, hb, hsz, hn, -⟩ := hv
      obtain ⟨vk, vsd, vb, va, vn, vc⟩ := v
      simp only at hk hs hb hsz hn
      subst hk hs hb hn
      have hcut := fun z => cut_c r.s 32 z (by decide)
      have hcs : Hid ((cutB r.s 32).size ≤ maxLen) := by have := cutB_size r.s 32; show _ ≤ _; unfold maxLen; omega
      obtain ⟨t1, t2, t3, t4⟩ := two3 w (.cells #[.int .i64 r.k, .string r.s, .bool r.b, .slice va r.ps.length vc] TX) (.cells #[.int .i64 0, .string ⟨#[]⟩, .bool false, .slice none 0 0] TX) (.cells #[.int .i64 r.k, .string (cutB r.s 32), .bool r.b, .slice none 0 0] TX)
      have hX2 : ((w.alloc (.cells #[.int .i64 r.k, .string r.s, .bool r.b, .slice va r.ps.length vc] TX)).alloc (.cells #[.int .i64 0, .string ⟨#[]⟩, .bool false, .slice none 0 0] TX)).heap[w.heap.size]? = some (.cells #[.int .i64 r.k, .string r.s, .bool r.b, .slice va r.ps.length vc] TX) := by
        show ((w.heap.push _).push _)[_]? = _
        rw [Array.getElem?_push, if_neg (by simp), Array.getElem?_push, if_pos rfl]
      obtain ⟨w2, hw2⟩ : ∃ w2, Hid (w2 = (w.alloc (.cells #[.int .i64 r.k, .string r.s, .bool r.b, .slice va r.ps.length vc] TX)).alloc (.cells #[.int .i64 0, .string ⟨#[]⟩, .bool false, .slice none 0 0] TX)) := ⟨_, hidden rfl⟩
      rw [← hw2.out] at t1 t2 t3 t4 hX2
      have hw2s : w2.heap.size = w.heap.size + 2 := by rw [hw2.out]; show ((w.heap.push _).push _).size = _; simp
      obtain ⟨⟨x0, x1, x2, x3⟩, -⟩ := box4f hX2
      have nx := World.new_ne _ _ x0
      obtain ⟨y0, hy0⟩ : ∃ y0, Hid (y0 = (w2.alloc (.cells #[.int .i64 r.k, .string (cutB r.s 32), .bool r.b, .slice none 0 0] TX)).drew) := ⟨_, hidden rfl⟩
      have hst : Hid (XF w #[.int .i64 r.k, .string r.s, .bool r.b, .slice va r.ps.length vc] r.k (cutB r.s 32) r.b d r.ps 0 (.slice none 0 0) [] y0) := by
        rw [hy0.out]
        exact ⟨⟨t4.os, t4.tape, t4.output, t4.size, t4.block⟩, t1, t2, t3, World.ownsRow_nil .., rfl, fun i hi => by omega⟩
      have hys : Hid (y0.heap.size = w.heap.size + 3) := by show _ = _; rw [hy0.out]; show (w2.heap.push _).size = _; simp; omega
      replace hw2s := hidden hw2s
      clear t1 t2 t3 t4 hX2 hsz
      generalize hcl : cutB r.s 32 = cl at *
      replace hcl := hidden hcl
      go_enter Try.func74, Try.ntmps74
      go_wp2_with fail
      rw [← hw2.out]
      go_region_held3 (fun z => z.cell? ⟨w.heap.size, 0, none⟩ = some (.int .i64 r.k) ∧ z.cell? ⟨w.heap.size, 1, none⟩ = some (.string r.s) ∧ z.cell? ⟨w.heap.size, 2, none⟩ = some (.bool r.b)) (go_keep) (first
        | (go_at_call 8; refine (hcut _).mono ?_; rintro e z1 ⟨rfl, rfl⟩)
        | fail)
      all_goals
        rw [← hy0.out, hw2s.out]
        clear hcut x0 x1 x2 x3 nx
        go_wp2_with fail
        go_loopw [6] (fun i x => ∃ (k : Nat) (u : Value) (vs : List RxV), k ≤ r.ps.length ∧ k ≤ 3 ∧ (d = 0 → k = 0) ∧ i = .int .i64 k ∧ Hid (XF w #[.int .i64 r.k, .string r.s, .bool r.b, .slice va r.ps.length vc] r.k cl r.b d r.ps k u vs x) ∧ Hid (w.heap.size + 3 ≤ x.heap.size)) (fun i _ => 3 - (intOf i).toNat)
        case atStart => exact ⟨0, _, [], Nat.zero_le _, Nat.zero_le _, fun _ => rfl, rfl, hst, by show _ ≤ _; have := hys.out; omega⟩
        case round =>
          clear hst hys
          obtain ⟨k, u, vs, hk, hk3, hd0, rfl, hX, hsz⟩ := hrel
          obtain ⟨ua, uc, rfl⟩ : ∃ a c, u = .slice a k c := own_shape hX.out.row
          obtain ⟨⟨x0, x1, x2, x3⟩, -⟩ := box4f hX.out.hx
          obtain ⟨⟨o0, o1, o2, o3⟩, -⟩ := box4f hX.out.ho
          by_cases hgo : k < r.ps.length ∧ k < 3 ∧ 0 < d
          · obtain ⟨hk1, hk2, hdp⟩ := hgo
            have hk1' : (k : Int) < (r.ps.length : Int) := by omega
            have hk2' : (k : Int) < 3 := by omega
            have hd1 : (0 : Int) < (d : Int) := by omega
            have hd2 : (1 : Int) < (d : Int) + 1 := by omega
            have hd3 : (d : Int) ≤ 100 := by omega
            have hwd : IntKind.i64.wrap (d : Int) = (d : Int) := by rw [IntKind.wrap_i64]; omega
            have hXd := hX.out.drew
            obtain ⟨pb, po, q, rfl, hpb, c0, c1, c2, c3, hq⟩ := (hv0.out.below hX.out.below).at hk1
            have hih := ih (d - 1) (by omega) (by omega) D ok q (r.ps.getD k Rx.none) wr.drew (hq.below (Below.refl _ _).drew)
            rw [show d - 1 + 1 = d by omega] at hih
            obtain ⟨qk, qs, qb, qa, qn, qc⟩ := q
            simp only at c0 c1 c2 c3 hih
            have hszd : Hid (w.heap.size + 3 ≤ wr.drew.heap.size) := hsz.out
            replace hXd := hidden hXd
            clear hq
            go_wp2_with fail
            go_region_law (first
              | (refine step_wp (by rfl) (wp_call (vs := #[.agg #[.int .i64 qk, .string qs, .bool qb, .slice qa qn qc], .int .i64 (d : Int)]) (by rfl) (fun _ _ => rfl) (by simp only [List.map_toArray, List.map_cons, List.map_nil] <;> rfl) (hih.mono ?_)); rintro e z ⟨⟨k1, s1, b1, a1, n1, c9⟩, rfl, hH, hB⟩; simp only; refine ⟨_, rfl, ?_⟩
                 have hXz := hidden (hXd.out.step hB)
                 have hHz := hidden (hH.below ((Below.refl z.heap.size z).alloc (Nat.le_refl _) (.cells #[.int .i64 k1, .string s1, .bool b1, .slice a1 n1 c9] TX)))
                 have hBz := hidden (hB.alloc hB.size (.cells #[.int .i64 k1, .string s1, .bool b1, .slice a1 n1 c9] TX))
                 have hXa := hidden (hXd.out.step hBz.out)
                 obtain ⟨⟨q0, q1, q2, q3⟩, -⟩ := box4f hXz.out.ho
                 have z2 : ∀ o, (z.alloc o).cell? ⟨w.heap.size + 2, 3, none⟩ = some (.slice ua k uc) := fun o => (World.cell?_alloc_lt _ _ _ (World.block_lt_of_cell? _ _ q3)).trans q3
                 clear hH hB)
              | (refine step_append_own_at (by rfl) _ _ _ (by rfl) (w.heap.size + 3) TX i0 _ 4 56 Try.underlying110 hi hz0 hz1 hz2 rfl (by decide) (.slice ua k uc) _ _ (by rfl) hXa.out.row ⟨z.heap.size, 0, none⟩ 1 1 [.int .i64 k1, .string s1, .bool b1, .slice a1 n1 c9] (by rfl) (by rfl) (cells_new z [_, _, _, _] _) (by simp [Value.oneCell']) (by unfold maxLen; omega) (by omega) (Nat.le_trans hszd.out hBz.out.size) ?_
                 intro v' w6 hown6 hgrow6 hat6
                 obtain ⟨a6, c6, rfl⟩ := own_shape hown6
                 obtain ⟨⟨r0, r1, r2, r3⟩, f0, f1, f2, f3⟩ := box4f ((hgrow6.block (w.heap.size + 2) (Array.getElem?_eq_some_iff.1 hXa.out.ho).1 (fun e => by have := (hXa.out.row.lt _ e.symm).1; omega)).trans hXa.out.ho))
              | fail)
            all_goals
              have hfin := hidden (hXd.out.more hszd.out hBz.out hHz.out hown6 hgrow6 hat6)
              have hszf : Hid (w.heap.size + 3 ≤ (w6.setCell ⟨w.heap.size + 2, 3, none⟩ (.slice a6 (k + 1) c6)).heap.size) := by
                refine Nat.le_trans (Nat.le_trans hszd.out hBz.out.size) (Nat.le_trans hgrow6.size ?_)
                simp [World.setCell]
              clear hXd hszd hBz hHz hown6 hgrow6 hat6 hXz hXa hX hsz z2 q0 q1 q2 q3 r0 r1 r2 r3 f0 f1 f2 f3 x0 x1 x2 x3 o0 o1 o2 o3 c0 c1 c2 c3 hih
              go_wp2
              go_roundw
              case rel => exact ⟨k + 1, _, _, by omega, by omega, fun h => absurd h (by omega), by go_num, hfin, hszf⟩
              case measure => simp [intOf]; omega
          · have hkd : (d = 0 ∧ k = 0) ∨ (0 < d ∧ k = min 3 r.ps.length) := by
              by_cases h0 : d = 0
              · exact .inl ⟨h0, hd0 h0⟩
              · refine .inr ⟨by omega, ?_⟩
                have : ¬ (k < r.ps.length ∧ k < 3) := fun h => hgo ⟨h.1, h.2, by omega⟩
                omega
            have hdn := hX.out
            rw [← hcl.out] at hdn
            have hdn2 := hdn.done hkd rfl (by rw [hcl.out]; exact hcs.out)
            rw [hcl.out] at hdn2
            obtain ⟨⟨e0, e1, e2, e3⟩, f0, f1, f2, f3⟩ := box4f hX.out.hr
            have hR := hX.out.hr
            have hfin : Hid (((((wr.setCell ⟨w.heap.size + 1, 0, none⟩ (.int .i64 r.k)).setCell ⟨w.heap.size + 1, 1, none⟩ (.string cl)).setCell ⟨w.heap.size + 1, 2, none⟩ (.bool r.b)).setCell ⟨w.heap.size + 1, 3, none⟩ (.slice ua k uc)).heap[w.heap.size + 1]? = some (.cells #[.int .i64 r.k, .string cl, .bool r.b, .slice ua k uc] TX)) := by
              have h := heap_setX (heap_setX (heap_setX (heap_setX hR 0 (.int .i64 r.k)) 1 (.string cl)) 2 (.bool r.b)) 3 (.slice ua k uc)
              show _ = _
              simpa using h
            have hBf := hidden ((((hX.out.below.setCell (p := ⟨w.heap.size + 1, 0, none⟩) (Nat.le_succ _) (.int .i64 r.k)).setCell (p := ⟨w.heap.size + 1, 1, none⟩) (Nat.le_succ _) (.string cl)).setCell (p := ⟨w.heap.size + 1, 2, none⟩) (Nat.le_succ _) (.bool r.b)).setCell (p := ⟨w.heap.size + 1, 3, none⟩) (Nat.le_succ _) (.slice ua k uc))
            have hHf : Hid (HeldX (fun g => w.heap.size ≤ g) ((((wr.setCell ⟨w.heap.size + 1, 0, none⟩ (.int .i64 r.k)).setCell ⟨w.heap.size + 1, 1, none⟩ (.string cl)).setCell ⟨w.heap.size + 1, 2, none⟩ (.bool r.b)).setCell ⟨w.heap.size + 1, 3, none⟩ (.slice ua k uc)) (d + 1) ⟨r.k, cl, r.b, ua, k, uc⟩ (r.few d)) :=
              hdn2.kept fun b h1 h2 => ⟨by omega, by simpa [World.setCell] using h2, by rw [heap_oX (show w.heap.size + 1 ≠ b by omega), heap_oX (show w.heap.size + 1 ≠ b by omega), heap_oX (show w.heap.size + 1 ≠ b by omega), heap_oX (show w.heap.size + 1 ≠ b by omega)]⟩
            clear hdn hdn2 hR hX hsz
            by_cases hk1 : k < r.ps.length
            · have hk1' : (k : Int) < (r.ps.length : Int) := by omega
              by_cases hk2 : k < 3
              · have hk2' : (k : Int) < 3 := by omega
                have hd1 : ¬ (0 : Int) < (d : Int) := by omega
                have hd2 : ¬ (1 : Int) < (d : Int) + 1 := by omega
                go_wp2
                replace hfin := hfin.out
                refine bodyPost_ret (results_cell_row rfl _ _ (w.heap.size + 1) _ _ _ _ rfl hfin Try.underlying112 rfl (by kernel_rfl)) rfl ⟨⟨r.k, cl, r.b, ua, k, uc⟩, rfl, hHf.out, hBf.out⟩
              · have hk2' : ¬ (k : Int) < 3 := by omega
                go_wp2
                replace hfin := hfin.out
                refine bodyPost_ret (results_cell_row rfl _ _ (w.heap.size + 1) _ _ _ _ rfl hfin Try.underlying112 rfl (by kernel_rfl)) rfl ⟨⟨r.k, cl, r.b, ua, k, uc⟩, rfl, hHf.out, hBf.out⟩
            · have hk1' : ¬ (k : Int) < (r.ps.length : Int) := by omega
              go_wp2
              replace hfin := hfin.out
              refine bodyPost_ret (results_cell_row rfl _ _ (w.heap.size + 1) _ _ _ _ rfl hfin Try.underlying112 rfl (by kernel_rfl)) rfl ⟨⟨r.k, cl, r.b, ua, k, uc⟩, rfl, hHf.out, hBf.out⟩
end Go.Proofs.Ytnmjhbnadfjapaa
/-
  Few, of an expression: by contract.
-/
namespace Go.Proofs.Ytnmjhbnadfjapaa
open Go.ChangeShapes Go.WideShapes Go.ChangeAt Go.RowKit

set_option maxHeartbeats 6400000 in
set_option maxRecDepth 100000 in
theorem rxFew_c {D : Nat} {ok : Nat → Prop} {v : RxV} {r : Rx} {w : World} (hv : HeldX ok w D v r) :
    Calls Try.prog 57 #[.agg #[.int .i64 v.k, .string v.s, .bool v.b, .slice v.a v.n v.c]] w fun e w' => ∃ q : RxV, e = .returned (.agg #[.int .i64 q.k, .string q.s, .bool q.b, .slice q.a q.n q.c]) ∧ HeldX (fun g => w.heap.size ≤ g) w' 4 q (r.few 3) ∧ Below w.heap.size w w' := by
  obtain ⟨t1, t2, -, -⟩ := two3 w (.cells #[.int .i64 v.k, .string v.s, .bool v.b, .slice v.a v.n v.c] TX) (.cells #[.int .i64 0, .string ⟨#[]⟩, .bool false, .slice none 0 0] TX) (.cells #[] TX)
  have hX1 : ((w.alloc (.cells #[.int .i64 v.k, .string v.s, .bool v.b, .slice v.a v.n v.c] TX)).alloc (.cells #[.int .i64 0, .string ⟨#[]⟩, .bool false, .slice none 0 0] TX)).heap[w.heap.size]? = some (.cells #[.int .i64 v.k, .string v.s, .bool v.b, .slice v.a v.n v.c] TX) := by
    show ((w.heap.push _).push _)[_]? = _
    rw [Array.getElem?_push, if_neg (by simp), Array.getElem?_push, if_pos rfl]
  have hX2 : ((w.alloc (.cells #[.int .i64 v.k, .string v.s, .bool v.b, .slice v.a v.n v.c] TX)).alloc (.cells #[.int .i64 0, .string ⟨#[]⟩, .bool false, .slice none 0 0] TX)).heap[w.heap.size + 1]? = some (.cells #[.int .i64 0, .string ⟨#[]⟩, .bool false, .slice none 0 0] TX) := by
    show ((w.heap.push _).push _)[_]? = _
    rw [Array.getElem?_push, if_pos (by simp)]
  have hB2 : Below w.heap.size w ((w.alloc (.cells #[.int .i64 v.k, .string v.s, .bool v.b, .slice v.a v.n v.c] TX)).alloc (.cells #[.int .i64 0, .string ⟨#[]⟩, .bool false, .slice none 0 0] TX)) := ((Below.refl _ _).alloc (Nat.le_refl _) _).alloc (by show _ ≤ (w.heap.push _).size; simp) _
  obtain ⟨w2, hw2⟩ : ∃ w2, Hid (w2 = (w.alloc (.cells #[.int .i64 v.k, .string v.s, .bool v.b, .slice v.a v.n v.c] TX)).alloc (.cells #[.int .i64 0, .string ⟨#[]⟩, .bool false, .slice none 0 0] TX)) := ⟨_, hidden rfl⟩
  rw [← hw2.out] at hX1 hX2 hB2
  have hw2s : w.heap.size + 2 ≤ w2.heap.size := by rw [hw2.out]; show _ ≤ ((w.heap.push _).push _).size; simp
  obtain ⟨⟨x0, x1, x2, x3⟩, -⟩ := box4f hX1
  have hf := rxfew_c 3 (by decide) D ok v r w2 (hv.below hB2)
  obtain ⟨vk, vs, vb, va, vn, vc⟩ := v
  simp only at hf x0 x1 x2 x3 hw2
  replace hX2 := hidden hX2
  replace hB2 := hidden hB2
  replace hw2s := hidden hw2s
  clear t1 t2 hX1 hv
  go_enter Try.func57, Try.ntmps57
  go_wp2_with fail
  rw [← hw2.out]
  go_wp2_with (first
    | (go_at_call 74; refine hf.mono ?_; rintro e z ⟨⟨k1, s1, b1, a1, n1, c1⟩, rfl, hH, hB⟩; have hz := blk_below hX2.out hB; obtain ⟨⟨e0, e1, e2, e3⟩, f0, f1, f2, f3⟩ := box4f hz)
    | fail)
  have hfin : Hid (((((z.setCell ⟨w.heap.size + 1, 0, none⟩ (.int .i64 k1)).setCell ⟨w.heap.size + 1, 1, none⟩ (.string s1)).setCell ⟨w.heap.size + 1, 2, none⟩ (.bool b1)).setCell ⟨w.heap.size + 1, 3, none⟩ (.slice a1 n1 c1)).heap[w.heap.size + 1]? = some (.cells #[.int .i64 k1, .string s1, .bool b1, .slice a1 n1 c1] TX)) := by
    have h := heap_setX (heap_setX (heap_setX (heap_setX hz 0 (.int .i64 k1)) 1 (.string s1)) 2 (.bool b1)) 3 (.slice a1 n1 c1)
    show _ = _
    simpa using h
  have hBz := hB2.out.trans (hB.mono hB2.out.size)
  have hBf := hidden ((((hBz.setCell (p := ⟨w.heap.size + 1, 0, none⟩) (Nat.le_succ _) (.int .i64 k1)).setCell (p := ⟨w.heap.size + 1, 1, none⟩) (Nat.le_succ _) (.string s1)).setCell (p := ⟨w.heap.size + 1, 2, none⟩) (Nat.le_succ _) (.bool b1)).setCell (p := ⟨w.heap.size + 1, 3, none⟩) (Nat.le_succ _) (.slice a1 n1 c1))
  have hHf : Hid (HeldX (fun g => w.heap.size ≤ g) ((((z.setCell ⟨w.heap.size + 1, 0, none⟩ (.int .i64 k1)).setCell ⟨w.heap.size + 1, 1, none⟩ (.string s1)).setCell ⟨w.heap.size + 1, 2, none⟩ (.bool b1)).setCell ⟨w.heap.size + 1, 3, none⟩ (.slice a1 n1 c1)) 4 ⟨k1, s1, b1, a1, n1, c1⟩ (r.few 3)) :=
    hH.kept fun b h1 h2 => ⟨by have := hw2s.out; omega, by simpa [World.setCell] using h2, by have := hw2s.out; rw [heap_oX (show w.heap.size + 1 ≠ b by omega), heap_oX (show w.heap.size + 1 ≠ b by omega), heap_oX (show w.heap.size + 1 ≠ b by omega), heap_oX (show w.heap.size + 1 ≠ b by omega)]⟩
  clear hz hBz hB hH hf
  go_wp2
  replace hfin := hfin.out
  refine bodyPost_ret (results_cell_row rfl _ _ (w.heap.size + 1) _ _ _ _ rfl hfin Try.underlying112 rfl (by kernel_rfl)) rfl ⟨⟨k1, s1, b1, a1, n1, c1⟩, rfl, hHf.out, hBf.out⟩
end Go.Proofs.Ytnmjhbnadfjapaa
