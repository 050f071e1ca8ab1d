/-
  THE STEPS OF AN EXPRESSION, told one by one into a list that a variable holds: the closure, by contract.
-/
import Derived.Test.YtjgddkbpfpgaoafDoorRComp1
import Derived.Deep.LoopGhost
import Derived.Laws.AppendOwnNone
namespace Go.Proofs.YtjgddkbpfpgaoafDoor
open Go.ChangeShapes Go.WideShapes Go.ChangeAt Go.RowKit

/-- A variable that holds a row of steps of its own. -/
structure Told (B : Nat) (w : World) (c : Nat) (xs : List Sy) : Prop where
  bc : B ≤ c
  cell : ∃ u, w.heap[c]? = some (.cells #[u] 28) ∧ w.ownsRow B 23 2 u xs.length (syR.flat xs)
theorem Told.below {B c : Nat} {w w' : World} {xs : List Sy} (h : Told B w c xs) (hB : Below w.heap.size w w') : Told B w' c xs := by
  obtain ⟨h1, u, h2, h3⟩ := h
  exact ⟨h1, u, (hB.block c (Array.getElem?_eq_some_iff.1 h2).1).trans h2, owns_keep h3 hB⟩
theorem infoSy : (Tryd.prog.info? 23).map (fun i => (i.zero, i.size, i.bytes)) = some (some (.agg #[.string ⟨#[]⟩, .bool false]), 2, 24) := by kernel_rfl
set_option maxHeartbeats 1600000 in
set_option maxRecDepth 100000 in
theorem tell_c (B c : Nat) (z : Sy) (xs : List Sy) (w : World) (h : Told B w c xs) (hl : xs.length ≤ 100000) : Calls Tryd.prog 10 #[.agg #[.string z.1, .bool z.2], .pointer (some ⟨c, 0, none⟩)] w fun e w' =>
    e = .returned (.tuple #[]) ∧ Told B w' c (xs ++ [z]) ∧ Below B w w' ∧ w.heap.size ≤ w'.heap.size ∧ ∀ (k : Nat) (cs : Array Value), w.heap[k]? = some (Obj.cells cs 26) → w'.heap[k]? = some (Obj.cells cs 26) := by
  obtain ⟨i0, hi, hz0, hz1, hz2⟩ := info_parts infoSy
  obtain ⟨hBc, u, hu, hown⟩ := h
  obtain ⟨z, p⟩ := z
  have hcl : c < w.heap.size := (Array.getElem?_eq_some_iff.1 hu).1
  have hne : u.ownBlock ≠ some c := fun e => by
    rcases hown.2 with ⟨rfl, _⟩ | ⟨g, cap, cur, rfl, _, hg, _⟩
    · simp [Value.ownBlock] at e
    · simp [Value.ownBlock] at e
      subst e
      rw [hu] at hg
      simp at hg
  have c0 : w.cell? ⟨c, 0, none⟩ = some u := by simp [World.cell?, hu]
  have hnew : ∀ j x, ([.string z, .bool p] : List Value)[j]? = some x → ((w.alloc (.cells #[.string z, .bool p] 23)).alloc (.cells #[.string z, .bool p] 23)).cell? ((⟨w.heap.size + 1, 0, none⟩ : Addr).add j) = some x := fun j x hj => by
    have := cells_new (w.alloc (.cells #[.string z, .bool p] 23)) [.string z, .bool p] 23 j x hj
    rw [show (w.alloc (.cells #[.string z, .bool p] 23)).heap.size = w.heap.size + 1 by simp] at this
    exact this
  replace hnew := hidden hnew
  have hown1 := hidden ((hown.alloc (.cells #[.string z, .bool p] 23)).alloc (.cells #[.string z, .bool p] 23))
  go_enter Tryd.func10, Tryd.ntmps10
  go_wp2_with (at_builtin; refine wpList_append_own _ rfl _ _ 28 rfl B 23 i0 (.agg #[.string ⟨#[]⟩, .bool false]) 2 24 Tryd.underlying28 hi hz0 hz1 hz2 rfl (by decide) _ _ _ rfl hown1.out ⟨w.heap.size + 1, 0, none⟩ 1 1 [.string z, .bool p] rfl rfl hnew.out ?c2 ?c3 ?c4 ?c5 ?_)
  case c2 => intro u hu; simp at hu; rcases hu with rfl | rfl <;> rfl
  case c3 => unfold maxLen; omega
  case c4 => omega
  case c5 => simp; omega
  intro v' w1 hown' hgrow hat
  have hold : ∀ k o, w.heap[k]? = some o → ((w.alloc (.cells #[.string z, .bool p] 23)).alloc (.cells #[.string z, .bool p] 23)).heap[k]? = some o := fun k o hk => by
    have hlt := (Array.getElem?_eq_some_iff.1 hk).1
    exact (heap_alloc_old _ _ (by simp; omega)).trans ((heap_alloc_old _ _ hlt).trans hk)
  have hsz : w.heap.size + 2 ≤ w1.heap.size := by have := hgrow.size; simp at this; omega
  have hu1 : w1.heap[c]? = some (.cells #[u] 28) := (hgrow.block c (by simp; omega) (fun e => hne e.symm)).trans (hold c _ hu)
  have d0 : w1.cell? ⟨c, 0, none⟩ = some u := by simp [World.cell?, hu1]
  have d1 : w1.frozen? ⟨c, 0, none⟩ = false := by simp [World.frozen?, hu1]
  have hB : Below B w w1 := ((((Below.refl B w).alloc (by omega) _)).alloc (by simp; omega) _).grown hgrow (by simp; omega) (fun j hj => (hown.lt j hj).1)
  have hTX : ∀ (k : Nat) (cs : Array Value), w.heap[k]? = some (Obj.cells cs 26) → w1.heap[k]? = some (Obj.cells cs 26) := fun k cs hk => by
    have hlt := (Array.getElem?_eq_some_iff.1 hk).1
    refine (hgrow.block k (by simp; omega) fun e => ?_).trans (hold k _ hk)
    rcases hown.2 with ⟨e1, _⟩ | ⟨g, cap, cur, e1, _, hg, _⟩
    · rw [e1] at e; simp [Value.ownBlock] at e
    · rw [e1] at e
      simp [Value.ownBlock] at e
      subst e
      rw [hk] at hg
      injection hg with hg
      injection hg with _ hg _
      exact absurd hg (by decide)
  obtain ⟨g, cap, rfl⟩ : ∃ g cap, v' = .slice (some ⟨g, 0, none⟩) (xs.length + 1) cap := by
    rcases hown'.2 with ⟨_, h0⟩ | ⟨g, cap, cur, e, _⟩
    · omega
    · exact ⟨g, cap, e⟩
  have hT : Told B (w1.setCell ⟨c, 0, none⟩ (.slice (some ⟨g, 0, none⟩) (xs.length + 1) cap)) c (xs ++ [(z, p)]) := by
    have hgc : (Value.slice (some ⟨g, 0, none⟩) (xs.length + 1) cap).ownBlock ≠ some c := fun e => by
      rcases hown'.2 with ⟨h1, _⟩ | ⟨g2, cap2, cur, e2, _, hg, _⟩
      · cases h1
      · simp [Value.ownBlock] at e
        subst e
        cases e2
        rw [hu1] at hg
        simp at hg
    refine ⟨hBc, .slice (some ⟨g, 0, none⟩) (xs.length + 1) cap, ?_, ?_⟩
    · have := heap_setX hu1 0 (.slice (some ⟨g, 0, none⟩) (xs.length + 1) cap)
      simpa using this
    · have hk : w1.grownBy (w1.setCell ⟨c, 0, none⟩ (.slice (some ⟨g, 0, none⟩) (xs.length + 1) cap)) (some c) := ⟨rfl, rfl, rfl, by simp [World.setCell], fun k _ hk => by
        simp only [World.setCell, Array.getElem?_modify]
        rw [if_neg (fun e => hk (by simp [e]))]⟩
      have := hown'.kept hk (.inr hgc)
      rw [Rec.flat_app, Rec.flat_one]
      simpa [syR] using this
  have hB2 : Below B w (w1.setCell ⟨c, 0, none⟩ (.slice (some ⟨g, 0, none⟩) (xs.length + 1) cap)) := hB.setCell hBc _
  have hTX2 : Hid (w.heap.size ≤ (w1.setCell ⟨c, 0, none⟩ (.slice (some ⟨g, 0, none⟩) (xs.length + 1) cap)).heap.size ∧ ∀ (k : Nat) (cs : Array Value), w.heap[k]? = some (Obj.cells cs 26) → (w1.setCell ⟨c, 0, none⟩ (.slice (some ⟨g, 0, none⟩) (xs.length + 1) cap)).heap[k]? = some (Obj.cells cs 26)) := ⟨by simp [World.setCell]; omega, fun k cs hk => by
    have h1 := hTX k cs hk
    rw [heap_oX (fun e => ?_)]
    · exact h1
    · have e : c = k := e
      subst e
      rw [hu1] at h1
      injection h1 with h1
      injection h1 with _ h1 _
      exact absurd h1 (by decide)⟩
  clear c0 hi hz0 hz1 hz2 hu hu1 hown hown' hne hgrow hB hTX hold hnew hown1 hat
  have hT := hidden hT
  have hB2 := hidden hB2
  go_wp2
  go_end0
  exact ⟨rfl, hT.out, hB2.out, hTX2.out⟩
end Go.Proofs.YtjgddkbpfpgaoafDoor
/-
  THE STEPS OF AN EXPRESSION: mathematics.
-/
namespace Go.Proofs.YtjgddkbpfpgaoafDoor
open Go.ChangeShapes Go.WideShapes Go.ChangeAt Go.RowKit

mutual
/-- The steps that lie in an expression, and how many parts it has. -/
def Rx.syms : Rx → List Sy
  | .mk k s b ps => (if k = 2 then [(s, b)] else []) ++ symsL ps
def symsL : List Rx → List Sy
  | [] => []
  | r :: rs => r.syms ++ symsL rs
end
mutual
def Rx.nodes : Rx → Nat
  | .mk _ _ _ ps => nodesL ps + 1
def nodesL : List Rx → Nat
  | [] => 0
  | r :: rs => r.nodes + nodesL rs
end
theorem syms_eq (r : Rx) : r.syms = (if r.k = 2 then [(r.s, r.b)] else []) ++ symsL r.ps := by
  cases r; rw [Rx.syms]; rfl
theorem nodes_eq (r : Rx) : r.nodes = nodesL r.ps + 1 := by
  cases r; simp [Rx.nodes, Rx.ps]
theorem symsL_app : ∀ a b : List Rx, symsL (a ++ b) = symsL a ++ symsL b
  | [], b => by simp [symsL]
  | r :: a, b => by simp [symsL, symsL_app a b]
theorem nodesL_app : ∀ a b : List Rx, nodesL (a ++ b) = nodesL a + nodesL b
  | [], b => by simp [nodesL]
  | r :: a, b => by simp [nodesL, nodesL_app a b]; omega
theorem nodesL_len : ∀ a : List Rx, a.length ≤ nodesL a
  | [] => by simp [nodesL]
  | r :: a => by
    have h1 := nodesL_len a
    have h2 := nodes_eq r
    simp only [nodesL, List.length_cons]; omega
mutual
theorem syms_len : ∀ r : Rx, r.syms.length ≤ r.nodes
  | .mk k s b ps => by
    have h := symsL_len ps
    simp only [Rx.syms, Rx.nodes, List.length_append]
    split <;> simp <;> omega
theorem symsL_len : ∀ l : List Rx, (symsL l).length ≤ nodesL l
  | [] => by simp [symsL]
  | r :: rs => by
    have h1 := syms_len r
    have h2 := symsL_len rs
    simp only [symsL, nodesL, List.length_append]; omega
end
/-- One expression taken off a stack, its parts put on it. -/
theorem stack_step {S : List Rx} (r : Rx) (L : List Sy) (T : List Sy) (h : (L ++ symsL (S ++ [r])).Perm T) : ((if r.k = 2 then L ++ [(r.s, r.b)] else L) ++ symsL (S ++ r.ps)).Perm T := by
  refine List.Perm.trans ?_ h
  rw [symsL_app, symsL_app, show symsL [r] = r.syms by simp [symsL], syms_eq]
  split
  · rw [List.append_assoc]
    refine List.Perm.append_left L ?_
    refine (List.perm_append_comm_assoc _ _ _).trans ?_
    rfl
  · simp
theorem stack_less {S : List Rx} (r : Rx) : nodesL (S ++ r.ps) < nodesL (S ++ [r]) := by
  rw [nodesL_app, nodesL_app, show nodesL [r] = r.nodes by simp [nodesL], nodes_eq]; omega
end Go.Proofs.YtjgddkbpfpgaoafDoor
/-
  regex.each: a stack of expressions.
-/
namespace Go.Proofs.YtjgddkbpfpgaoafDoor
open Go.ChangeShapes Go.WideShapes Go.ChangeAt Go.RowKit

theorem run_append_noneC {P : Program} {w : World} (base : Nat) (t ty e : TypeId) (i : TypeInfo) (size : Nat) (ht : P.underlying t = some (.slice e)) (hi : P.info? e = some i)
    (v : Value) (n c : Nat) (xs : List Value) (hown : w.ownsRow base e size v n xs) :
    (Builtin.append_ #[t, t] ty #[v, .slice none 0 c]).run P w = .ok v w := by
  rcases hown.2 with ⟨rfl, rfl⟩ | ⟨g, cap, cur, rfl, _, _, hnc, _⟩
  · simp [Builtin.append_, run_underlying ht, sizeOf, typeInfo, hi, Builtin.lenOf, Builtin.firstCells]
  · simp [Builtin.append_, run_underlying ht, sizeOf, typeInfo, hi, Builtin.lenOf, Builtin.firstCells, hnc, storeCells]
theorem wpList_append_noneC {P : Program} {w : World} {ops : Array Oper} {rest : List Oper} {o : Oper} {a : Act} {Q : Exit → Act → World → Prop} (hgd : o.guard = none) (s x : Operand) (t : TypeId)
    (ho : o.op = .call { callee := .builtin .append, args := #[s, x], argTypes := #[t, t] })
    (base : Nat) (e : TypeId) (i : TypeInfo) (size : Nat) (ht : P.underlying t = some (.slice e)) (hi : P.info? e = some i)
    (v : Value) (n c : Nat) (xs : List Value) (hs : a.eval s = v) (hown : w.ownsRow base e size v n xs) (hx : a.eval x = .slice none 0 c)
    (h : wpList P ops Q rest (a.put o.dst v) w) : wpList P ops Q (o :: rest) a w := by
  refine wpList_plain hgd fun K hK => ?_
  have hrun := run_append_noneC (P := P) (w := w) base t o.type e i size ht hi v n c xs hown
  unfold Oper.wp
  simp [execOp, ho, resolve, invoke, builtin, hs, hx, hrun, Result.andThen]
  exact hK _ _ h
/-- A stack of expressions, in a row of its own; what they hold lies elsewhere. -/
structure St (N B : Nat) (w : World) (D : Nat) (u : Value) (vs : List RxV) (S : List Rx) : Prop where
  len : vs.length = S.length
  row : w.ownsRow B TX 4 u S.length (rxR.flat vs)
  held : ∀ i, i < S.length → HeldX (fun b => b < N) w D (vs.getD i RxV.none) (S.getD i Rx.none)
theorem heldN {N : Nat} {w w' : World} (hB : Below N w w') (hN : N ≤ w.heap.size) {D : Nat} {v : RxV} {r : Rx} (h : HeldX (fun b => b < N) w D v r) : HeldX (fun b => b < N) w' D v r :=
  h.kept fun b h1 _ => ⟨h1, Nat.lt_of_lt_of_le h1 (Nat.le_trans hN (by have := hB.size; omega)), hB.block b h1⟩
theorem St.keep {N B : Nat} {w w' : World} {D : Nat} {u : Value} {vs : List RxV} {S : List Rx} (h : St N B w D u vs S) (hB : Below N w w') (hN : N ≤ w.heap.size) (hX : ∀ (k : Nat) (cs : Array Value), w.heap[k]? = some (Obj.cells cs TX) → w'.heap[k]? = some (Obj.cells cs TX)) : St N B w' D u vs S := by
  refine ⟨h.len, ?_, fun i hi => heldN hB hN (h.held i hi)⟩
  obtain ⟨hl, hr⟩ := h.row
  refine ⟨hl, ?_⟩
  rcases hr with h1 | ⟨g, cap, cur, h1, h2, h3, h4⟩
  · exact .inl h1
  · exact .inr ⟨g, cap, cur, h1, h2, hX g _ h3, h4⟩
/-- The last one, and the stack without it. -/
theorem St.pop {N B : Nat} {w : World} {D : Nat} {u : Value} {vs : List RxV} {S : List Rx} {r : Rx} (h : St N B w D u vs (S ++ [r])) : ∃ g cap vs' v, u = .slice (some ⟨g, 0, none⟩) (S.length + 1) cap ∧ S.length + 1 ≤ cap ∧ St N B w D (.slice (some ⟨g, 0, none⟩) S.length cap) vs' S ∧ HeldX (fun b => b < N) w D v r ∧
    w.cell? ⟨g, S.length * 4, none⟩ = some (.int .i64 v.k) ∧ w.cell? ⟨g, S.length * 4 + 1, none⟩ = some (.string v.s) ∧ w.cell? ⟨g, S.length * 4 + 2, none⟩ = some (.bool v.b) ∧ w.cell? ⟨g, S.length * 4 + 3, none⟩ = some (.slice v.a v.n v.c) := by
  obtain ⟨hlen, hrow, hheld⟩ := h
  rw [List.length_append, List.length_singleton] at hlen hrow hheld
  rcases hrow.2 with ⟨_, h0⟩ | ⟨g, cap, cur, rfl, h1, h2, h3, h4, h5, h6⟩
  · omega
  have hat := fun j hj => Rec.flat_at (R := rxR) vs S.length j (by omega) hj
  have hc := fun j u hj => own_cell (j := j) (u := u) hrow hj
  refine ⟨g, cap, vs.take S.length, vs.getD S.length RxV.none, rfl, h3, ⟨by rw [List.length_take]; omega, ⟨by rw [Rec.flat_len, List.length_take, Nat.min_eq_left (by omega)]; rfl, .inr ⟨g, cap, cur, rfl, h1, h2, by omega, h4, h5, ?_⟩⟩, fun i hi => ?_⟩, ?_, hc _ _ (hat 0 (by show 0 < 4; omega)), hc _ _ (hat 1 (by show 1 < 4; omega)), hc _ _ (hat 2 (by show 2 < 4; omega)), hc _ _ (hat 3 (by show 3 < 4; omega))⟩
  · have e : rxR.flat (vs.take S.length) = (rxR.flat vs).take (S.length * 4) := by
      have h1 : rxR.flat vs = rxR.flat (vs.take S.length) ++ rxR.flat (vs.drop S.length) := by rw [← Rec.flat_app, List.take_append_drop]
      rw [h1, List.take_left' (by rw [Rec.flat_len, List.length_take, Nat.min_eq_left (by omega)]; rfl)]
    rw [e, ← h6, List.take_take, Nat.min_eq_left (by omega)]
  · have := hheld i (by omega)
    have e1 : (vs.take S.length).getD i RxV.none = vs.getD i RxV.none := by simp [List.getD, hi]
    have e2 : (S ++ [r]).getD i Rx.none = S.getD i Rx.none := by simp [List.getD, List.getElem?_append_left hi]
    rw [e1, ← e2]
    exact this
  · have := hheld S.length (by omega)
    have e2 : (S ++ [r]).getD S.length Rx.none = r := by simp [List.getD]
    rw [e2] at this
    exact this
/-- Its parts put on it. -/
theorem St.push {N B : Nat} {w w' : World} {D : Nat} {u u' : Value} {vs ps : List RxV} {S R : List Rx} (h : St N B w D u vs S) (hNB : N ≤ B) (hN : N ≤ w.heap.size) (hl : ps.length = R.length) (hh : ∀ i, i < R.length → HeldX (fun b => b < N) w D (ps.getD i RxV.none) (R.getD i Rx.none))
    (hown : w'.ownsRow B TX 4 u' (S.length + R.length) (rxR.flat vs ++ rxR.flat ps)) (hg : w.grownBy w' u.ownBlock) : St N B w' D u' (vs ++ ps) (S ++ R) ∧ Below N w w' := by
  have hB : Below N w w' := (Below.refl N w).grown hg hN (fun j hj => Nat.le_trans hNB (h.row.lt j hj).1)
  refine ⟨⟨by rw [List.length_append, List.length_append, h.len, hl], by rw [Rec.flat_app, List.length_append]; exact hown, fun i hi => ?_⟩, hB⟩
  refine heldN hB hN ?_
  rw [List.length_append] at hi
  by_cases h1 : i < S.length
  · have e1 : (vs ++ ps).getD i RxV.none = vs.getD i RxV.none := by simp [List.getD, List.getElem?_append_left (show i < vs.length by rw [h.len]; exact h1)]
    have e2 : (S ++ R).getD i Rx.none = S.getD i Rx.none := by simp [List.getD, List.getElem?_append_left h1]
    rw [e1, e2]
    exact h.held i h1
  · have e1 : (vs ++ ps).getD i RxV.none = ps.getD (i - S.length) RxV.none := by simp [List.getD, List.getElem?_append_right (show vs.length ≤ i by rw [h.len]; omega), h.len]
    have e2 : (S ++ R).getD i Rx.none = R.getD (i - S.length) Rx.none := by simp [List.getD, List.getElem?_append_right (show S.length ≤ i by omega)]
    rw [e1, e2]
    exact hh _ (by omega)
end Go.Proofs.YtjgddkbpfpgaoafDoor
/-
  regex.each, by contract.
-/
namespace Go.Proofs.YtjgddkbpfpgaoafDoor
open Go.ChangeShapes Go.WideShapes Go.ChangeAt Go.RowKit

theorem row_neX {w : World} {B te s n b : Nat} {v : Value} {xs : List Value} {cs : Array Value} {tb : TypeId} (h : w.ownsRow B te s v n xs) (hb : w.heap[b]? = some (.cells cs tb)) (ht : te ≠ tb) : v.ownBlock ≠ some b := fun e => by
  rcases h.2 with ⟨rfl, _⟩ | ⟨g, cap, cur, rfl, _, h3, _⟩
  · cases e
  · simp only [Value.ownBlock, Option.some.injEq] at e
    subst e
    rw [h3] at hb
    injection hb with hb
    injection hb with _ hb _
    exact ht hb
theorem row_grownX {w w2 : World} {B1 B2 t1 t2 s1 s2 n1 n2 : Nat} {v1 v2 : Value} {xs1 xs2 : List Value} (h1 : w.ownsRow B1 t1 s1 v1 n1 xs1) (h2 : w.ownsRow B2 t2 s2 v2 n2 xs2) (ht : t1 ≠ t2) (hg : w.grownBy w2 v2.ownBlock) : w2.ownsRow B1 t1 s1 v1 n1 xs1 := by
  obtain ⟨hl, h⟩ := h1
  refine ⟨hl, ?_⟩
  rcases h with h | ⟨g, cap, cur, e1, e2, e3, e4⟩
  · exact .inl h
  · exact .inr ⟨g, cap, cur, e1, e2, (hg.block g (Array.getElem?_eq_some_iff.1 e3).1 (Ne.symm (row_neX h2 e3 ht.symm))).trans e3, e4⟩
/-- What is so between the rounds. -/
structure EI (N B c D : Nat) (w0 : World) (T : List Sy) (u : Value) (vs : List RxV) (S : List Rx) (L : List Sy) (x : World) : Prop where
  st : St N B x D u vs S
  told : Told N x c L
  below : Below N w0 x
  perm : (L ++ symsL S).Perm T
  n1 : nodesL S ≤ 1000
  n2 : L.length ≤ 2000
  base : B ≤ x.heap.size
set_option maxHeartbeats 6400000 in
set_option maxRecDepth 100000 in
theorem each_c (N c D : Nat) (v : RxV) (r : Rx) (w : World) (L0 : List Sy) (hv : HeldX (fun b => b < N) w D v r) (hN : N ≤ w.heap.size) (hT : Told N w c L0) (hn : r.nodes ≤ 1000) (hL : L0.length ≤ 1000) :
    Calls Tryd.prog 9 #[.agg #[.int .i64 v.k, .string v.s, .bool v.b, .slice v.a v.n v.c], .func (.func 10) #[] #[.pointer (some ⟨c, 0, none⟩)]] w fun e w' =>
      e = .returned (.tuple #[]) ∧ (∃ L, Told N w' c L ∧ L.Perm (L0 ++ r.syms)) ∧ Below N w w' := by
  obtain ⟨i0, hi, hz0, hz1, hz2⟩ := info_parts infoX
  obtain ⟨w1, hw1⟩ : ∃ w1, Hid (w1 = (w.alloc (.cells #[.int .i64 v.k, .string v.s, .bool v.b, .slice v.a v.n v.c] TX)).alloc (.cells #[.int .i64 v.k, .string v.s, .bool v.b, .slice v.a v.n v.c] TX)) := ⟨_, hidden rfl⟩
  have hB1 : Below w.heap.size w w1 := by
    rw [hw1.out]; exact ((Below.refl _ _).alloc (Nat.le_refl _) _).alloc (by show _ ≤ (w.heap.push _).size; simp) _
  have hs1 : w1.heap.size = w.heap.size + 2 := by rw [hw1.out]; simp
  have hrow : w1.ownsRow w.heap.size TX 4 (.slice (some ⟨w.heap.size + 1, 0, none⟩) 1 1) 1 (rxR.flat [v]) := by
    have h := World.ownsRow_lit (base := w.heap.size) (e := TX) (size := 4) (w.alloc (.cells #[.int .i64 v.k, .string v.s, .bool v.b, .slice v.a v.n v.c] TX)) #[.int .i64 v.k, .string v.s, .bool v.b, .slice v.a v.n v.c] 1 (by simp) (by unfold maxLen; omega) rfl
    rw [← hw1.out, show (w.alloc (.cells #[.int .i64 v.k, .string v.s, .bool v.b, .slice v.a v.n v.c] TX)).heap.size = w.heap.size + 1 by simp] at h
    exact h
  have hst : Hid (EI N w.heap.size c D w (L0 ++ r.syms) (.slice (some ⟨w.heap.size + 1, 0, none⟩) 1 1) [v] [r] L0 w1) := by
    refine ⟨⟨rfl, hrow, fun i hi => ?_⟩, hT.below hB1, hB1.mono hN, ?_, by simp [nodesL]; exact hn, by omega, by omega⟩
    · obtain rfl : i = 0 := by simp at hi; omega
      exact heldN (hB1.mono hN) hN hv
    · simp [symsL]
  clear hrow hB1 hs1 hT hv
  go_enter Tryd.func9, Tryd.ntmps9
  go_wp2_with fail
  rw [← hw1.out]
  clear hw1
  go_wp2_with fail
  go_loopg [4] r.nodes (fun g u x => ∃ (a : Option Addr) (n cap : Nat) (vs : List RxV) (S : List Rx) (L : List Sy), u = .slice a n cap ∧ n = S.length ∧ nodesL S ≤ g ∧ Hid (EI N w.heap.size c D w (L0 ++ r.syms) (.slice a n cap) vs S L x))
  case atStart => exact ⟨_, 1, 1, [v], [r], L0, rfl, rfl, by simp [nodesL], hst⟩
  case round =>
    clear hst
    obtain ⟨a, n, cap, vs, S, L, rfl, hn, hg, hE⟩ := hrel
    rcases List.eq_nil_or_concat S with rfl | ⟨S, r1, rfl⟩
    · obtain rfl : n = 0 := hn
      have hfin : Hid ((∃ L, Told N wr c L ∧ L.Perm (L0 ++ r.syms)) ∧ Below N w wr) := ⟨⟨L, hE.out.told, by have := hE.out.perm; simpa [symsL] using this⟩, hE.out.below⟩
      clear hE
      go_wp2
      go_end0
      exact ⟨rfl, hfin.out⟩
    · rw [List.concat_eq_append] at *
      obtain ⟨g1, cap1, vs1, v1, e1, hcap, hS, hv1, c0, c1, c2, c3⟩ := hE.out.st.pop
      simp only [Value.slice.injEq] at e1
      obtain ⟨rfl, rfl, rfl⟩ := e1
      clear hn
      have hm1 : S.length + 1 ≤ 1000 := by have h1 := nodesL_len (S ++ [r1]); have h2 := hE.out.n1; simp at h1; omega
      obtain ⟨m, hm⟩ : ∃ m, m = S.length := ⟨_, rfl⟩
      replace hS := hidden hS
      replace hv1 := hidden hv1
      obtain ⟨k1, s1, b1, a1, n1, c1'⟩ := v1
      simp only at c0 c1 c2 c3
      rw [← hm] at c0 c1 c2 c3 hm1 hcap ⊢
      replace hm := hidden hm
      have hmw : IntKind.i64.wrap (((m + 1 : Nat) : Int) - 1) = ((m : Nat) : Int) := by rw [IntKind.wrap_i64]; omega
      have hTlen : (L0 ++ r.syms).length ≤ 2000 := by have h1 := syms_len r; rw [List.length_append]; omega
      have hgl := hidden (stack_less (S := S) r1)
      obtain ⟨x0, hx0⟩ : ∃ x0, Hid (x0 = wr.alloc (.cells #[.int .i64 k1, .string s1, .bool b1, .slice a1 n1 c1'] TX)) := ⟨_, hidden rfl⟩
      have hBx : Below wr.heap.size wr x0 := by rw [hx0.out]; exact (Below.refl _ _).alloc (Nat.le_refl _) _
      have hXx : x0.heap[wr.heap.size]? = some (Obj.cells #[.int .i64 k1, .string s1, .bool b1, .slice a1 n1 c1'] TX) := by rw [hx0.out]; exact heap_alloc_new _ _
      have hNw : N ≤ wr.heap.size := Nat.le_trans hN hE.out.base
      have hSx : St N w.heap.size x0 D (.slice (some ⟨g1, 0, none⟩) S.length cap) vs1 S := hS.out.keep (hBx.mono hNw) hNw fun k cs h => (hBx.block k (Array.getElem?_eq_some_iff.1 h).1).trans h
      have hHx : HeldX (fun b => b < N) x0 D ⟨k1, s1, b1, a1, n1, c1'⟩ r1 := heldN (hBx.mono hNw) hNw hv1.out
      have hTx := hE.out.told.below hBx
      have hsx := hBx.size
      have hbb := hE.out.base
      have hrk : k1 = r1.k ∧ s1 = r1.s ∧ b1 = r1.b := by
        cases D with
        | zero => exact absurd hHx (fun h => h)
        | succ D => obtain ⟨h1, h2, h3, _⟩ := hHx; exact ⟨h1, h2, h3⟩
      have hpm := stack_step r1 L (L0 ++ r.syms) hE.out.perm
      by_cases hk : k1 = 2
      · rw [if_pos (by rw [← hrk.1]; exact hk), ← hrk.2.1, ← hrk.2.2] at hpm
        have htell := tell_c N c (s1, b1) L x0 hTx (by have := hE.out.n2; omega)
        have hpre := hidden (And.intro hSx (And.intro hHx (And.intro (hE.out.below.trans (hBx.mono hNw)) (And.intro hpm (And.intro hXx hE.out.n1)))))
        clear hSx hHx hTx hpm hXx hE hS hv1 hrk hBx
        subst hk
        go_wp2_with fail
        rw [← hx0.out]
        refine htell.mono ?_
        rintro e z ⟨rfl, hTz, hBz, hsz, hXz⟩
        obtain ⟨p1, p2, p3, p4, p5, p6⟩ := hpre.out
        have hNx : N ≤ x0.heap.size := by omega
        have hZ : Hid (St N w.heap.size z D (.slice (some ⟨g1, 0, none⟩) S.length cap) vs1 S ∧ HeldX (fun b => b < N) z D ⟨2, s1, b1, a1, n1, c1'⟩ r1 ∧ Told N z c (L ++ [(s1, b1)]) ∧ Below N w z ∧ w.heap.size ≤ z.heap.size ∧ ((L ++ [(s1, b1)]) ++ symsL (S ++ r1.ps)).Perm (L0 ++ r.syms) ∧ nodesL (S ++ r1.ps) < nodesL (S ++ [r1]) ∧ nodesL (S ++ [r1]) ≤ 1000) :=
          ⟨p1.keep hBz hNx hXz, heldN hBz hNx p2, hTz, p3.trans hBz, by omega, p4, hgl.out, p6⟩
        obtain ⟨⟨y0, y1, y2, y3⟩, -⟩ := box4f (hXz _ _ p5)
        clear hpre p1 p2 p3 p4 p5 hTz hBz hXz htell hx0
        obtain ⟨hS2, hH2, hT2, hBl2, hb2, hp2, hg2, hN2⟩ := hZ.out
        cases D with
        | zero => exact absurd hH2 (fun h => h)
        | succ D =>
          obtain ⟨-, -, -, -, hn1, pvs, hpl, hpr, hph⟩ := hH2
          simp only at hn1 hpr
          subst hn1
          have hph' : ∀ i, i < r1.ps.length → HeldX (fun b => b < N) z (D + 1) (pvs.getD i RxV.none) (r1.ps.getD i Rx.none) := fun i hi => (hph i hi).mono
          have hcnt : S.length + r1.ps.length ≤ 1000 := by have h1 := nodesL_len (S ++ r1.ps); simp at h1; omega
          have hms := hm.out
          subst hms
          have hfl : (rxR.flat pvs).length = r1.ps.length * 4 := by rw [Rec.flat_len, hpl]; rfl
          cases a1 with
          | none =>
            have hp0 : r1.ps.length = 0 := by
              rcases hpr with h0 | ⟨b, off, h0, _⟩
              · rw [h0] at hfl; simp at hfl; omega
              · cases h0
            have hps : r1.ps = [] := List.eq_nil_of_length_eq_zero hp0
            have hnx : Hid (EI N w.heap.size c (D + 1) w (L0 ++ r.syms) (.slice (some ⟨g1, 0, none⟩) S.length cap) vs1 S (L ++ [(s1, b1)]) z) := by
              rw [hps, List.append_nil] at hp2 hg2
              exact ⟨hS2, hT2, hBl2, hp2, by omega, by have h5 := hp2.length_eq; rw [List.length_append] at h5; omega, hb2⟩
            have hgn : nodesL S < gk := by rw [hps, List.append_nil] at hg2; omega
            have hrw := hidden hS2.row
            rw [hp0] at y3 ⊢
            clear hS2 hT2 hBl2 hp2 hph hph' hpr hZ hps hp0
            go_wp2_with (at_builtin; go_loud (refine wpList_append_noneC rfl _ _ 24 rfl w.heap.size TX i0 4 Tryd.underlying24 hi _ S.length _ _ rfl hrw.out rfl ?_))
            go_roundg (nodesL S)
            case measure => exact hgn
            case rel => exact ⟨_, S.length, cap, vs1, S, _, rfl, rfl, Nat.le_refl _, hnx⟩
          | some ad =>
            have hnews : Hid (∀ j u, (rxR.flat pvs)[j]? = some u → z.cell? (ad.add j) = some u) := fun j u hj => by
              rcases hpr with h0 | ⟨b, off, h0, _, _, h1⟩
              · rw [h0] at hj; simp at hj
              · cases h0
                rw [add_plain]
                exact h1 j u hj
            have hone := hidden (Rec.flat_one_cell (R := rxR) pvs)
            have hgn : nodesL (S ++ r1.ps) < gk := by omega
            have hpush := hidden fun u' (w6 : World) (ho : w6.ownsRow w.heap.size TX 4 u' (S.length + r1.ps.length) (rxR.flat vs1 ++ rxR.flat pvs)) (hgw : World.grownBy z w6 (some g1)) => hS2.push hN (by omega) hpl hph' ho hgw
            have hEI : Hid (∀ (u' : Value) (w6 : World), St N w.heap.size w6 (D + 1) u' (vs1 ++ pvs) (S ++ r1.ps) ∧ Below N z w6 → z.heap.size ≤ w6.heap.size → Told N w6 c (L ++ [(s1, b1)]) → EI N w.heap.size c (D + 1) w (L0 ++ r.syms) u' (vs1 ++ pvs) (S ++ r1.ps) (L ++ [(s1, b1)]) w6) := fun u' w6 h6 hs6 ht6 => ⟨h6.1, ht6, hBl2.trans h6.2, hp2, by omega, by have h5 := hp2.length_eq; rw [List.length_append] at h5; omega, by omega⟩
            have hrw := hidden hS2.row
            have hT2h := hidden hT2
            have hb2h := hb2
            clear hS2 hT2 hBl2 hp2 hph hph' hpr hZ
            go_wp2_with (at_builtin; go_loud (refine wpList_append_own _ rfl _ _ 24 rfl w.heap.size TX i0 (.agg #[.int .i64 0, .string ⟨#[]⟩, .bool false, .slice none 0 0]) 4 56 Tryd.underlying24 hi hz0 hz1 hz2 rfl (by decide) _ _ _ rfl hrw.out ad r1.ps.length _ (rxR.flat pvs) rfl hfl hnews.out hone.out ?c3 ?c4 hb2h ?_))
            case c3 => unfold maxLen; omega
            case c4 => omega
            intro v' w6 hown6 hgrow6 _
            have h6 := hpush.out v' w6 hown6 hgrow6
            have ht6 : Told N w6 c (L ++ [(s1, b1)]) := by
              obtain ⟨hbc, u, hu1, hu2⟩ := hT2h.out
              refine ⟨hbc, u, ?_, ?_⟩
              · refine (hgrow6.block c (Array.getElem?_eq_some_iff.1 hu1).1 fun e => ?_).trans hu1
                exact row_neX hrw.out hu1 (by decide) e.symm
              · exact row_grownX hu2 hrw.out (by decide) hgrow6
            have hnx := hidden (hEI.out v' w6 h6 hgrow6.size ht6)
            obtain ⟨a6, c6, rfl⟩ := own_shape hown6
            clear hpush hEI hrw hT2h hone hnews hown6 hgrow6 h6 ht6
            go_wp2
            go_roundg (nodesL (S ++ r1.ps))
            case measure => exact hgn
            case rel => exact ⟨_, _, c6, vs1 ++ pvs, S ++ r1.ps, _, rfl, by rw [List.length_append], Nat.le_refl _, hnx⟩
      · rw [if_neg (by rw [← hrk.1]; exact hk)] at hpm
        have hZ : Hid (St N w.heap.size x0 D (.slice (some ⟨g1, 0, none⟩) S.length cap) vs1 S ∧ HeldX (fun b => b < N) x0 D ⟨k1, s1, b1, a1, n1, c1'⟩ r1 ∧ Told N x0 c L ∧ Below N w x0 ∧ w.heap.size ≤ x0.heap.size ∧ (L ++ symsL (S ++ r1.ps)).Perm (L0 ++ r.syms) ∧ nodesL (S ++ r1.ps) < nodesL (S ++ [r1]) ∧ nodesL (S ++ [r1]) ≤ 1000) :=
          ⟨hSx, hHx, hTx, hE.out.below.trans (hBx.mono hNw), by omega, hpm, hgl.out, hE.out.n1⟩
        clear hSx hHx hTx hpm hXx hE hS hv1 hrk hBx
        obtain ⟨hS2, hH2, hT2, hBl2, hb2, hp2, hg2, hN2⟩ := hZ.out
        cases D with
        | zero => exact absurd hH2 (fun h => h)
        | succ D =>
          obtain ⟨-, -, -, -, hn1, pvs, hpl, hpr, hph⟩ := hH2
          simp only at hn1 hpr
          subst hn1
          have hph' : ∀ i, i < r1.ps.length → HeldX (fun b => b < N) x0 (D + 1) (pvs.getD i RxV.none) (r1.ps.getD i Rx.none) := fun i hi => (hph i hi).mono
          have hcnt : S.length + r1.ps.length ≤ 1000 := by have h1 := nodesL_len (S ++ r1.ps); simp at h1; omega
          have hms := hm.out
          subst hms
          have hfl : (rxR.flat pvs).length = r1.ps.length * 4 := by rw [Rec.flat_len, hpl]; rfl
          cases a1 with
          | none =>
            have hp0 : r1.ps.length = 0 := by
              rcases hpr with h0 | ⟨b, off, h0, _⟩
              · rw [h0] at hfl; simp at hfl; omega
              · cases h0
            have hps : r1.ps = [] := List.eq_nil_of_length_eq_zero hp0
            have hnx : Hid (EI N w.heap.size c (D + 1) w (L0 ++ r.syms) (.slice (some ⟨g1, 0, none⟩) S.length cap) vs1 S L x0) := by
              rw [hps, List.append_nil] at hp2 hg2
              exact ⟨hS2, hT2, hBl2, hp2, by omega, by have h5 := hp2.length_eq; rw [List.length_append] at h5; omega, hb2⟩
            have hgn : nodesL S < gk := by rw [hps, List.append_nil] at hg2; omega
            have hrw := hidden hS2.row
            rw [hp0] at c3 hx0
            clear hS2 hT2 hBl2 hp2 hph hph' hpr hZ hps hp0
            go_wp2_with (at_builtin; go_loud (rw [← hx0.out]; refine wpList_append_noneC rfl _ _ 24 rfl w.heap.size TX i0 4 Tryd.underlying24 hi _ S.length _ _ rfl hrw.out rfl ?_))
            go_roundg (nodesL S)
            case measure => exact hgn
            case rel => exact ⟨_, S.length, cap, vs1, S, _, rfl, rfl, Nat.le_refl _, hnx⟩
          | some ad =>
            have hnews : Hid (∀ j u, (rxR.flat pvs)[j]? = some u → x0.cell? (ad.add j) = some u) := fun j u hj => by
              rcases hpr with h0 | ⟨b, off, h0, _, _, h1⟩
              · rw [h0] at hj; simp at hj
              · cases h0
                rw [add_plain]
                exact h1 j u hj
            have hone := hidden (Rec.flat_one_cell (R := rxR) pvs)
            have hgn : nodesL (S ++ r1.ps) < gk := by omega
            have hpush := hidden fun u' (w6 : World) (ho : w6.ownsRow w.heap.size TX 4 u' (S.length + r1.ps.length) (rxR.flat vs1 ++ rxR.flat pvs)) (hgw : World.grownBy x0 w6 (some g1)) => hS2.push hN (by omega) hpl hph' ho hgw
            have hEI : Hid (∀ (u' : Value) (w6 : World), St N w.heap.size w6 (D + 1) u' (vs1 ++ pvs) (S ++ r1.ps) ∧ Below N x0 w6 → x0.heap.size ≤ w6.heap.size → Told N w6 c L → EI N w.heap.size c (D + 1) w (L0 ++ r.syms) u' (vs1 ++ pvs) (S ++ r1.ps) L w6) := fun u' w6 h6 hs6 ht6 => ⟨h6.1, ht6, hBl2.trans h6.2, hp2, by omega, by have h5 := hp2.length_eq; rw [List.length_append] at h5; omega, by omega⟩
            have hrw := hidden hS2.row
            have hT2h := hidden hT2
            have hb2h := hb2
            clear hS2 hT2 hBl2 hp2 hph hph' hpr hZ
            go_wp2_with (at_builtin; go_loud (rw [← hx0.out]; refine wpList_append_own _ rfl _ _ 24 rfl w.heap.size TX i0 (.agg #[.int .i64 0, .string ⟨#[]⟩, .bool false, .slice none 0 0]) 4 56 Tryd.underlying24 hi hz0 hz1 hz2 rfl (by decide) _ _ _ rfl hrw.out ad r1.ps.length _ (rxR.flat pvs) rfl hfl hnews.out hone.out ?c3 ?c4 hb2h ?_))
            case c3 => unfold maxLen; omega
            case c4 => omega
            intro v' w6 hown6 hgrow6 _
            have h6 := hpush.out v' w6 hown6 hgrow6
            have ht6 : Told N w6 c L := by
              obtain ⟨hbc, u, hu1, hu2⟩ := hT2h.out
              refine ⟨hbc, u, ?_, ?_⟩
              · refine (hgrow6.block c (Array.getElem?_eq_some_iff.1 hu1).1 fun e => ?_).trans hu1
                exact row_neX hrw.out hu1 (by decide) e.symm
              · exact row_grownX hu2 hrw.out (by decide) hgrow6
            have hnx := hidden (hEI.out v' w6 h6 hgrow6.size ht6)
            obtain ⟨a6, c6, rfl⟩ := own_shape hown6
            clear hpush hEI hrw hT2h hone hnews hown6 hgrow6 h6 ht6
            go_wp2
            go_roundg (nodesL (S ++ r1.ps))
            case measure => exact hgn
            case rel => exact ⟨_, _, c6, vs1 ++ pvs, S ++ r1.ps, _, rfl, by rw [List.length_append], Nat.le_refl _, hnx⟩
end Go.Proofs.YtjgddkbpfpgaoafDoor
