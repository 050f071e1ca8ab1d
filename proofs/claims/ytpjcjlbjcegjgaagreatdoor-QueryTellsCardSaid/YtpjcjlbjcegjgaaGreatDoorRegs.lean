/-
  A CUT TEXT, by contract.
-/
import Derived.Test.YtpjcjlbjcegjgaaGreatDoorSl
import Derived.Test.YtpjcjlbjcegjgaaGreatDoorRec
import Derived.Lib.SmallJoins
import Derived.Deep.Strs
namespace Go.Proofs.YtpjcjlbjcegjgaaGreatDoor
open Go.ChangeShapes Go.WideShapes Go.ChangeAt Go.RowKit

def cutB (s : ByteArray) (m : Nat) : ByteArray := if m < s.size then s.extract 0 m else s
theorem cutB_size (s : ByteArray) (m : Nat) : (cutB s m).size ≤ m := by
  unfold cutB; split
  · simp; omega
  · omega

set_option maxHeartbeats 800000 in
theorem cut_c (s : ByteArray) (m : Nat) (w : World) (hm : m ≤ 1000) :
    Calls Tryz.prog 6 #[.string s, .int .i64 m] w fun e w' => e = .returned (.string (cutB s m)) ∧ w' = w := by
  unfold cutB
  by_cases h : m < s.size
  · rw [if_pos h]
    go_enter Tryz.func6, Tryz.ntmps6
    go_wp2
    go_ret
    exact ⟨rfl, rfl⟩
  · rw [if_neg h]
    go_enter Tryz.func6, Tryz.ntmps6
    go_wp2
    go_ret
    exact ⟨rfl, rfl⟩
end Go.Proofs.YtpjcjlbjcegjgaaGreatDoor
/-
  EXPRESSIONS IN MEMORY: what one holds, whose parts lie in rows of their own; one that came in. No function is named here.
-/
namespace Go.Proofs.YtpjcjlbjcegjgaaGreatDoor
open Go.ChangeShapes Go.WideShapes Go.ChangeAt Go.RowKit

/-- An expression. -/
inductive Rx where
  | mk (k : Int) (s : ByteArray) (b : Bool) (ps : List Rx)
def Rx.k : Rx → Int | .mk k _ _ _ => k
def Rx.s : Rx → ByteArray | .mk _ s _ _ => s
def Rx.b : Rx → Bool | .mk _ _ b _ => b
def Rx.ps : Rx → List Rx | .mk _ _ _ ps => ps
def Rx.none : Rx := .mk 0 ⟨#[]⟩ false []
/-- An expression as it lies: its kind, its step, and where its parts are. -/
structure RxV where
  k : Int
  s : ByteArray
  b : Bool
  a : Option Addr
  n : Nat
  c : Nat
def RxV.none : RxV := ⟨0, ⟨#[]⟩, false, .none, 0, 0⟩
def rxR : Rec RxV := ⟨fun x => [.int .i64 x.k, .string x.s, .bool x.b, .slice x.a x.n x.c], 4, by decide, fun _ => rfl, fun x u hu => by simp at hu; rcases hu with rfl | rfl | rfl | rfl <;> rfl, RxV.none⟩
/-- Cells that lie in a block of which ok says so. -/
def RowOk (ok : Nat → Prop) (w : World) (a : Option Addr) (xs : List Value) : Prop := xs = [] ∨ ∃ b off, a = some ⟨b, off, none⟩ ∧ ok b ∧ b < w.heap.size ∧ ∀ j u, xs[j]? = some u → w.cell? ⟨b, off + j, none⟩ = some u
theorem RowOk.kept {ok ok' : Nat → Prop} {w w' : World} {a : Option Addr} {xs : List Value} (h : RowOk ok w a xs) (hb : ∀ b, ok b → b < w.heap.size → ok' b ∧ b < w'.heap.size ∧ w'.heap[b]? = w.heap[b]?) : RowOk ok' w' a xs := by
  rcases h with h | ⟨b, off, h1, h2, h3, h4⟩
  · exact .inl h
  · obtain ⟨k1, k2, k3⟩ := hb b h2 h3
    exact .inr ⟨b, off, h1, k1, k2, fun j u hj => (World.cell?_of_block k3).trans (h4 j u hj)⟩
theorem RowOk.row {ok : Nat → Prop} {w : World} {a : Option Addr} {xs : List Value} (h : RowOk ok w a xs) : RowAt w a xs := by
  rcases h with h | ⟨b, off, h1, _, h3, h4⟩
  · exact .inl h
  · exact .inr ⟨b, off, h1, h3, h4⟩
/-- What is held, so deep at most, in blocks of which ok says so. -/
def HeldX (ok : Nat → Prop) (w : World) : Nat → RxV → Rx → Prop
  | 0, _, _ => False
  | d + 1, v, r => v.k = r.k ∧ v.s = r.s ∧ v.b = r.b ∧ v.s.size ≤ maxLen ∧ v.n = r.ps.length ∧ ∃ vs, vs.length = r.ps.length ∧ RowOk ok w v.a (rxR.flat vs) ∧ ∀ i, i < r.ps.length → HeldX ok w d (vs.getD i RxV.none) (r.ps.getD i Rx.none)
theorem HeldX.mono {ok : Nat → Prop} {w : World} : ∀ {d : Nat} {v : RxV} {r : Rx}, HeldX ok w d v r → HeldX ok w (d + 1) v r
  | _ + 1, _, _, ⟨h1, h2, h3, h4, h5, vs, h6, h7, h8⟩ => ⟨h1, h2, h3, h4, h5, vs, h6, h7, fun i hi => HeldX.mono (h8 i hi)⟩
theorem HeldX.le {ok : Nat → Prop} {w : World} {d e : Nat} {v : RxV} {r : Rx} (h : HeldX ok w d v r) (hde : d ≤ e) : HeldX ok w e v r := by
  induction hde with
  | refl => exact h
  | step _ ih => exact ih.mono
theorem HeldX.kept {ok ok' : Nat → Prop} {w w' : World} (hb : ∀ b, ok b → b < w.heap.size → ok' b ∧ b < w'.heap.size ∧ w'.heap[b]? = w.heap[b]?) : ∀ {d : Nat} {v : RxV} {r : Rx}, HeldX ok w d v r → HeldX ok' w' d v r
  | _ + 1, _, _, ⟨h1, h2, h3, h4, h5, vs, h6, h7, h8⟩ => ⟨h1, h2, h3, h4, h5, vs, h6, h7.kept hb, fun i hi => HeldX.kept hb (h8 i hi)⟩
theorem HeldX.below {ok : Nat → Prop} {w w' : World} {d : Nat} {v : RxV} {r : Rx} (h : HeldX ok w d v r) (hB : Below w.heap.size w w') : HeldX ok w' d v r :=
  h.kept fun b h1 h2 => ⟨h1, Nat.lt_of_lt_of_le h2 hB.size, hB.block b h2⟩
theorem HeldX.weak {ok ok' : Nat → Prop} {w : World} {d : Nat} {v : RxV} {r : Rx} (h : HeldX ok w d v r) (ho : ∀ b, ok b → b < w.heap.size → ok' b) : HeldX ok' w d v r :=
  h.kept fun b h1 h2 => ⟨ho b h1 h2, h2, rfl⟩
/-- A part at its place. -/
theorem HeldX.at {ok : Nat → Prop} {w : World} {d : Nat} {v : RxV} {r : Rx} (h : HeldX ok w (d + 1) v r) {k : Nat} (hk : k < r.ps.length) :
    ∃ b off x, v.a = some ⟨b, off, none⟩ ∧ b < w.heap.size ∧ w.cell? ⟨b, off + k * 4, none⟩ = some (.int .i64 x.k) ∧ w.cell? ⟨b, off + k * 4 + 1, none⟩ = some (.string x.s) ∧ w.cell? ⟨b, off + k * 4 + 2, none⟩ = some (.bool x.b) ∧ w.cell? ⟨b, off + k * 4 + 3, none⟩ = some (.slice x.a x.n x.c) ∧ HeldX ok w d x (r.ps.getD k Rx.none) := by
  obtain ⟨_, _, _, _, _, vs, h6, h7, h8⟩ := h
  obtain ⟨b, off, h1, h2, h3⟩ := rec_at h7.row (k := k) (by omega)
  exact ⟨b, off, vs.getD k RxV.none, h1, h2, h3 0 _ rfl, h3 1 _ rfl, h3 2 _ rfl, h3 3 _ rfl, h8 k hk⟩
/-- All of some are held at one depth. -/
theorem heldX_all {ok : Nat → Prop} {w : World} {f : Nat → RxV} {g : Nat → Rx} : ∀ n : Nat, (∀ i, i < n → ∃ d, HeldX ok w d (f i) (g i)) → ∃ D, ∀ i, i < n → HeldX ok w D (f i) (g i)
  | 0, _ => ⟨0, fun i hi => by omega⟩
  | n + 1, h => by
    obtain ⟨D, hD⟩ := heldX_all n fun i hi => h i (by omega)
    obtain ⟨d, hd⟩ := h n (by omega)
    refine ⟨max D d, fun i hi => ?_⟩
    by_cases e : i = n
    · subst e; exact hd.le (Nat.le_max_right _ _)
    · exact (hD i (by omega)).le (Nat.le_max_left _ _)
/-- Elements of a slice that lies in what came in, each got with less fuel. -/
theorem open_recsF {α : Type} {R : Rec α} {H : Type} {enc : TypeId × Value → H} {P : Program} {w : World} {sp : Nat → Bool} {held : Bool} {st e : TypeId} {v : Value} {fuel : Nat} {x : DataW H × List MemPlace} {ok : α → Prop}
    (hst : P.underlying st = some (.slice e)) (hc : P.cellsOf e = R.n) (hdec : ∀ n cs x, n < fuel → cs.length = R.n → DataW.trod enc P w 0 sp held n e cs = some x → ∃ p, cs = R.enc p ∧ ok p)
    (hf : DataW.trod enc P w 0 sp held fuel st [v] = some x) : ∃ (ps : List α) (a : Option Addr) (c : Nat), v = .slice a ps.length c ∧ ps.length ≤ maxLen ∧ HoldsR R w v ps ∧ ∀ p ∈ ps, ok p := by
  rcases DataW.trod_slice hst hf with ⟨hcs, _⟩ | ⟨a, len, cap, elems, rest, n, hfu, hcs, _, _, hl, hm, hlen, hel, _, _⟩
  · simp only [List.cons.injEq, and_true] at hcs
    subst hcs
    exact ⟨[], .none, 0, rfl, by unfold maxLen; simp, ⟨.none, 0, rfl, .inl rfl⟩, fun _ h => by cases h⟩
  · simp only [List.cons.injEq, and_true] at hcs
    subst hcs
    have each : ∀ i, ∃ p : α, i < len → (∀ j u, (R.enc p)[j]? = some u → w.cell? ((a.add (i * R.n)).add j) = some u) ∧ ok p := by
      intro i
      by_cases hi : i < len
      · have hb := hel i hi
        rw [List.getElem?_eq_getElem (by omega), hc, Option.bind_eq_some_iff] at hb
        obtain ⟨cs', hcs', hy⟩ := hb
        obtain ⟨_, hcl, hcc⟩ := World.cells?_some hcs'
        obtain ⟨p, rfl, hp⟩ := hdec n _ _ (by omega) hcl hy
        exact ⟨p, fun _ => ⟨fun j u hu => by
          have hj := (List.getElem?_eq_some_iff.1 hu).1
          rw [R.len] at hj
          exact (hcc j hj).trans hu, hp⟩⟩
      · exact ⟨R.dflt, fun h => absurd h hi⟩
    obtain ⟨f, hf⟩ := Classical.skolem.1 each
    obtain ⟨b, off, o⟩ := a
    by_cases hz : len = 0
    · subst hz
      exact ⟨[], _, cap, rfl, by unfold maxLen; simp, ⟨_, cap, rfl, .inl rfl⟩, fun _ h => by cases h⟩
    · have h0 : 0 < (R.enc (f 0)).length := by rw [R.len]; exact R.pos
      have hx := (hf 0 (by omega)).1 0 _ (List.getElem?_eq_getElem h0)
      obtain rfl : o = .none := by
        cases o with
        | none => rfl
        | some u => exact absurd hx (by simp only [Addr.add, World.cell?]; split <;> simp)
      have hbs : b < w.heap.size := by
        rw [add_plain, add_plain] at hx
        exact World.block_lt_of_cell? w _ hx
      refine ⟨(List.range len).map f, _, cap, by simp; rfl, by simp; omega, ⟨some ⟨b, off, .none⟩, cap, by simp, .inr ⟨b, off, rfl, hbs, fun j u hj => ?_⟩⟩, fun p hp => ?_⟩
      · have hl := (List.getElem?_eq_some_iff.1 hj).1
        rw [Rec.flat_len, List.length_map, List.length_range] at hl
        have hn := R.pos
        have hk : j / R.n < len := Nat.div_lt_of_lt_mul (by rw [Nat.mul_comm]; exact hl)
        have hm' : j % R.n < R.n := Nat.mod_lt _ hn
        have e : j = j / R.n * R.n + j % R.n := by have := Nat.div_add_mod j R.n; rw [Nat.mul_comm] at this; omega
        rw [e, Rec.flat_at _ _ _ (by simpa using hk) hm'] at hj
        have e2 : ((List.range len).map f).getD (j / R.n) R.dflt = f (j / R.n) := by simp [List.getD, hk]
        rw [e2] at hj
        have := (hf (j / R.n) hk).1 _ _ hj
        rw [add_plain, add_plain, Nat.add_assoc, ← e] at this
        exact this
      · obtain ⟨i, hi, rfl⟩ := List.mem_map.1 hp
        exact (hf i (List.mem_range.1 hi)).2
/-- An expression that lies in what came in. -/
theorem open_rxF {H : Type} {enc : TypeId × Value → H} {P : Program} {w : World} {sp : Nat → Bool} {held : Bool} {t : TypeId} {f0 f1 f2 s0 s1 : Field}
    (ht : P.underlying t = some (.struct #[f0, f1, f2])) (h0 : P.underlying f0.type = some (.int .i64)) (h1 : P.underlying f1.type = some (.struct #[s0, s1])) (h2 : P.underlying f2.type = some (.slice t))
    (i0 : P.underlying s0.type = some .string) (i1 : P.underlying s1.type = some .bool)
    (hc : P.cellsOf t = 4) (o0 : f0.offset = 0) (o1 : f1.offset = 1) (o2 : f2.offset = 3) (c0 : P.cellsOf f0.type = 1) (c1 : P.cellsOf f1.type = 2) (c2 : P.cellsOf f2.type = 1) (q0 : s0.offset = 0) (q1 : s1.offset = 1) (d0 : P.cellsOf s0.type = 1) (d1 : P.cellsOf s1.type = 1) :
    ∀ (fuel : Nat) (cs : List Value) (x : DataW H × List MemPlace), cs.length = 4 → DataW.trod enc P w 0 sp held fuel t cs = some x → ∃ v : RxV, cs = rxR.enc v ∧ ∃ d r, HeldX (fun _ => True) w d v r := by
  intro fuel
  induction fuel using Nat.strongRecOn with
  | ind fuel ih =>
    intro cs x hl hx
    match cs, hl with
    | [a0, a1, a2, a3], _ =>
      obtain ⟨xs, n, hfu, _, _, hlen, hf⟩ := DataW.trod_struct ht hx
      have g0 := hf 0 f0 rfl
      have g1 := hf 1 f1 rfl
      have g2 := hf 2 f2 rfl
      rw [o0, c0] at g0
      rw [o1, c1] at g1
      rw [o2, c2] at g2
      match xs, hlen with
      | [y0, y1, y2], _ =>
        simp only [List.drop_zero, List.take_succ_cons, List.take_zero, List.drop_succ_cons, List.getElem?_cons_zero, List.getElem?_cons_succ] at g0 g1 g2
        obtain ⟨m0, b0, _, _⟩ := DataW.trod_int h0 g0
        obtain ⟨_, _, _, _, _, r0, r1⟩ := trod_struct2 h1 g1
        rw [q0, d0] at r0
        rw [q1, d1] at r1
        obtain ⟨m1, b1, _, hsz⟩ := DataW.trod_string i0 r0
        obtain ⟨m2, b2, _⟩ := DataW.trod_bool i1 r1
        simp only [List.drop_zero, List.take_succ_cons, List.take_zero, List.cons.injEq, and_true, List.drop_succ_cons] at b0 b1 b2
        subst b0 b1 b2
        obtain ⟨vs, a, c, rfl, hm, hh, hw⟩ := open_recsF (R := rxR) (ok := fun v => ∃ d r, HeldX (fun _ => True) w d v r) h2 hc (fun n' cs' x' hn' hl' hx' => ih n' (by omega) cs' x' hl' hx') g2
        have hch : ∀ i : Nat, ∃ q : Nat × Rx, i < vs.length → HeldX (fun _ => True) w q.1 (vs.getD i RxV.none) q.2 := fun i => by
          by_cases hi : i < vs.length
          · have e : vs.getD i RxV.none = vs[i] := by simp [List.getD, hi]
            obtain ⟨d, r, h⟩ := hw _ (List.getElem_mem hi)
            exact ⟨(d, r), fun _ => by rw [e]; exact h⟩
          · exact ⟨(0, Rx.none), fun h => absurd h hi⟩
        obtain ⟨f, hf⟩ := Classical.skolem.1 hch
        obtain ⟨D, hD⟩ := heldX_all (ok := fun _ => True) (w := w) (f := fun i => vs.getD i RxV.none) (g := fun i => (f i).2) vs.length fun i hi => ⟨(f i).1, hf i hi⟩
        refine ⟨⟨m0, m1, m2, a, vs.length, c⟩, rfl, D + 1, .mk m0 m1 m2 ((List.range vs.length).map fun i => (f i).2), rfl, rfl, rfl, hsz, by simp [Rx.ps], vs, by simp [Rx.ps], ?_, fun i hi => ?_⟩
        · obtain ⟨a', c', e, hr⟩ := hh
          simp only [Value.slice.injEq] at e
          obtain ⟨rfl, _, _⟩ := e
          rcases hr with h | ⟨b, off, k1, k2, k3⟩
          · exact .inl h
          · exact .inr ⟨b, off, k1, trivial, k2, k3⟩
        have hi' : i < vs.length := by simpa [Rx.ps] using hi
        have e : (Rx.mk m0 m1 m2 ((List.range vs.length).map fun i => (f i).2)).ps.getD i Rx.none = (f i).2 := by simp [Rx.ps, List.getD, hi']
        rw [e]
        exact hD i hi'
theorem open_rx {H : Type} {enc : TypeId × Value → H} {P : Program} {w : World} {sp : Nat → Bool} {held : Bool} {t : TypeId} {f0 f1 f2 s0 s1 : Field} {v : Value} {d : DataW H} {qs : List MemPlace} {r : Reach} {b0 : Nat}
    (ht : P.underlying t = some (.struct #[f0, f1, f2])) (h0 : P.underlying f0.type = some (.int .i64)) (h1 : P.underlying f1.type = some (.struct #[s0, s1])) (h2 : P.underlying f2.type = some (.slice t))
    (i0 : P.underlying s0.type = some .string) (i1 : P.underlying s1.type = some .bool) (hagg : (match P.underlying t with | some (.struct _) | some (.array _ _) => true | _ => false) = true)
    (hc : P.cellsOf t = 4) (o0 : f0.offset = 0) (o1 : f1.offset = 1) (o2 : f2.offset = 3) (c0 : P.cellsOf f0.type = 1) (c1 : P.cellsOf f1.type = 2) (c2 : P.cellsOf f2.type = 1) (q0 : s0.offset = 0) (q1 : s1.offset = 1) (d0 : P.cellsOf s0.type = 1) (d1 : P.cellsOf s1.type = 1)
    (hval : Value.okWide P w r b0 t v) (h : DataW.Trod enc P w 0 sp held t v d qs) : ∃ (x : RxV) (D : Nat) (r : Rx), v = .agg #[.int .i64 x.k, .string x.s, .bool x.b, .slice x.a x.n x.c] ∧ HeldX (fun _ => True) w D x r := by
  obtain ⟨l, hl, rfl, _⟩ := GoX.arg_agg hagg hc hval
  obtain ⟨fuel, hf⟩ := h
  match l, hl with
  | [a0, a1, a2, a3], hl =>
    obtain ⟨x, hx, D, r, hr⟩ := open_rxF ht h0 h1 h2 i0 i1 hc o0 o1 o2 c0 c1 c2 q0 q1 d0 d1 fuel [a0, a1, a2, a3] _ hl (show DataW.trod enc P w 0 sp held fuel t [a0, a1, a2, a3] = some _ from hf)
    simp only [rxR, List.cons.injEq, and_true] at hx
    obtain ⟨rfl, rfl, rfl, rfl⟩ := hx
    exact ⟨x, D, r, rfl, hr⟩
end Go.Proofs.YtpjcjlbjcegjgaaGreatDoor
