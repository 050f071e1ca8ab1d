/-
  AN AUTOMATON COPIED: what the walks of Few and Own have in common.
-/
import Derived.Test.YtfdbedeidcaonabDoorDRel
import Derived.Test.YtfdbedeidcaonabDoorFew
import Derived.Test.YtfdbedeidcaonabDoorCut
import Derived.Deep.RegionHeld3
import Derived.Deep.AppendLies
import Derived.Laws.ResultCell
namespace Go.Proofs.YtfdbedeidcaonabDoor
open Go.ChangeShapes Go.WideShapes Go.ChangeAt Go.RowKit

theorem box3g {x : World} {b : Nat} {c0 c1 c2 : Value} {t : TypeId} (h : x.heap[b]? = some (.cells #[c0, c1, c2] t)) :
    (x.cell? ⟨b, 0, none⟩ = some c0 ∧ x.cell? ⟨b, 1, none⟩ = some c1 ∧ x.cell? ⟨b, 2, none⟩ = some c2) ∧ x.frozen? ⟨b, 0, none⟩ = false ∧ x.frozen? ⟨b, 1, none⟩ = false ∧ x.frozen? ⟨b, 2, none⟩ = false := by
  simp [World.cell?, World.frozen?, h]
theorem step_wp {P : Program} {ops : Array Oper} {o : Oper} {a : Act} {w : World} {K : Act → World → Prop} {Q : Exit → Act → World → Prop} {E : Prop} (hg : o.guard = none) (h : o.wp P a w K Q) : if Region.wanted o (yielded ops a.tmps) = true then Oper.wp P o a w K Q else E := by
  have hw : Region.wanted o (yielded ops a.tmps) = true := by simp [Region.wanted, hg]
  rw [if_pos hw]
  exact h
theorem wp_call {P : Program} {Q : Exit → Act → World → Prop} {o : Oper} {a : Act} {w : World} {K : Act → World → Prop} {f : FuncId} {args : Array Operand} {ats : Array TypeId} {vs : Array Value} (hop : o.op = .call { callee := .value (.func f), args := args, argTypes := ats }) (hE : ∀ args w, (callFunc f args).run P w = .ok (.enter f args) w) (hv : args.map a.eval = vs)
    (h : Calls P f vs w fun e w' => ∃ v, e = .returned v ∧ K (a.put o.dst v) w') : o.wp P a w K Q := by
  have e : execOp a.eval o = callFunc f (#[] ++ args.map a.eval ++ #[]) := by
    cases o
    cases hop
    rfl
  unfold Oper.wp
  rw [e, hE, hv]
  simp only [Array.empty_append, Array.append_empty]
  exact h.mono fun e w' ⟨v, he, hk⟩ => by subst he; exact hk
theorem heap_alloc_old3 (w : World) (o : Obj) {g : Nat} (hg : g < w.heap.size) : (w.alloc o).heap[g]? = w.heap[g]? := by
  show (w.heap.push o)[g]? = _
  rw [Array.getElem?_push, if_neg (by omega)]
theorem own_base {w : World} {B B2 t s n : Nat} {v : Value} {xs : List Value} (h : w.ownsRow B t s v n xs) (hB : B2 ≤ B) : w.ownsRow B2 t s v n xs := by
  obtain ⟨hl, h⟩ := h
  refine ⟨hl, ?_⟩
  rcases h with h | ⟨g, cap, cur, h1, h2, h3⟩
  · exact .inl h
  · exact .inr ⟨g, cap, cur, h1, Nat.le_trans hB h2, h3⟩
theorem shape_k {w : World} {B t s n m : Nat} {v : Value} {xs : List Value} (h : w.ownsRow B t s v n xs) (e : n = m) : ∃ a c, v = .slice a m c := by
  subst e
  exact own_shape h
def Sy.few (x : Sy) : Sy := ⟨cutB x.s 32, x.b⟩
def Df.few (d : Df) : Df := ⟨(d.ss.take 5).map Sy.few, (d.ns.take 9).map (·.take 6), d.ac.take 9⟩
theorem infoS : (Tryd.prog.info? 33).map (fun i => (i.zero, i.size, i.bytes)) = some (some (.agg #[.string ⟨#[]⟩, .bool false]), 2, 24) := by kernel_rfl
theorem infoR : (Tryd.prog.info? 28).map (fun i => (i.zero, i.size, i.bytes)) = some (some (.slice none 0 0), 1, 24) := by kernel_rfl
theorem infoB : (Tryd.prog.info? 4).map (fun i => (i.zero, i.size, i.bytes)) = some (some (.bool false), 1, 1) := by kernel_rfl
theorem threeD (w : World) (a b : Array Value) (t : TypeId) : (((w.alloc (.cells a t)).alloc (.cells b t)).alloc (.cells b t)).heap[w.heap.size]? = some (.cells a t) ∧ (((w.alloc (.cells a t)).alloc (.cells b t)).alloc (.cells b t)).heap[w.heap.size + 1]? = some (.cells b t) ∧
    (((w.alloc (.cells a t)).alloc (.cells b t)).alloc (.cells b t)).heap[w.heap.size + 2]? = some (.cells b t) ∧ Below w.heap.size w (((w.alloc (.cells a t)).alloc (.cells b t)).alloc (.cells b t)) := by
  refine ⟨?_, ?_, ?_, (((Below.refl _ _).alloc (Nat.le_refl _) _).alloc (by show _ ≤ (w.heap.push _).size; simp) _).alloc (by show _ ≤ ((w.heap.push _).push _).size; simp; omega) _⟩
  · show (((w.heap.push _).push _).push _)[_]? = _
    rw [Array.getElem?_push, if_neg (by simp; omega), Array.getElem?_push, if_neg (by simp), Array.getElem?_push, if_pos rfl]
  · show (((w.heap.push _).push _).push _)[_]? = _
    rw [Array.getElem?_push, if_neg (by simp), Array.getElem?_push, if_pos (by simp)]
  · show (((w.heap.push _).push _).push _)[_]? = _
    rw [Array.getElem?_push, if_pos (by simp)]
/-- An automaton whose rows are its own, from a block on. -/
structure OwnD (B : Nat) (d : Df) (vs : List RwV) (sv nv av : Value) (x : World) : Prop where
  rs : x.ownsRow B 33 2 sv d.ss.length (symR.flat d.ss)
  rn : RowsAt B nv vs d.ns x
  ra : x.ownsRow B 4 1 av d.ac.length (boolR.flat d.ac)
theorem OwnD.holds {B : Nat} {d : Df} {vs : List RwV} {sv nv av : Value} {x : World} (h : OwnD B d vs sv nv av x) : HoldsD x sv nv av d := ⟨holdsR_of_owns h.rs, h.rn.holds, holdsR_of_owns h.ra⟩
theorem RowsAt.zero {B : Nat} {u : Value} {vs : List RwV} {ns : List (List Int)} {x : World} (h : RowsAt B u vs ns x) : RowsAt 0 u vs ns x := ⟨own0 h.row, h.len, fun i hi => own0 (h.each i hi)⟩
theorem rows_at {w : World} {a : Option Addr} {n c : Nat} {ns : List (List Int)} (h : HoldsRows w (.slice a n c) ns) {k : Nat} (hk : k < ns.length) :
    ∃ b off pa pn pc, a = some ⟨b, off, none⟩ ∧ b < w.heap.size ∧ w.cell? ⟨b, off + k, none⟩ = some (.slice pa pn pc) ∧ HoldsR intR w (.slice pa pn pc) (ns.getD k []) := by
  obtain ⟨vs, ⟨a', c', he, hr⟩, h1, h2⟩ := h
  simp only [Value.slice.injEq] at he
  obtain ⟨rfl, _, _⟩ := he
  obtain ⟨b, off, rfl, hb, hc⟩ := rec_at hr (k := k) (by omega)
  have h3 := hc 0 _ rfl
  exact ⟨b, off, (vs.getD k RwV.none).a, (vs.getD k RwV.none).n, (vs.getD k RwV.none).c, rfl, hb, by rwa [show off + k * rowR.n + 0 = off + k by show off + k * 1 + 0 = _; omega] at h3, h2 k hk⟩
end Go.Proofs.YtfdbedeidcaonabDoor
