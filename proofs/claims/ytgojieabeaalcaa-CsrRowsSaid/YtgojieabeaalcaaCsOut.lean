/-
  ROWS OF RECORDS: cut, and appended to own rows of records, whatever they are. No function is named here.
-/
import Derived.Test.YtgojieabeaalcaaRec
import Derived.Test.YtgojieabeaalcaaSl
import Derived.Test.YtgojieabeaalcaaCsNew
namespace Go.Proofs.Ytgojieabeaalcaa
open Go.ChangeShapes Go.WideShapes Go.ChangeAt Go.RowKit

variable {α : Type} {R : Rec α}
theorem SlR.nil (w : World) : SlR R w (.slice none 0 0) [] := ⟨none, 0, rfl, Nat.le_refl _, fun _ => rfl, fun _ e => (by cases e), .inl rfl⟩
theorem SlR.to' {w : World} {g og n cap : Nat} {ps : List α} (h : SlR R w (.slice (some ⟨g, og, none⟩) n cap) ps) (l : Nat) (hl : l ≤ n) : SlR R w (.slice (some ⟨g, og, none⟩) l cap) (ps.take l) := by
  obtain ⟨a, cap', h1, h2, h3, h4, h5⟩ := h
  simp only [Value.slice.injEq] at h1
  obtain ⟨rfl, rfl, rfl⟩ := h1
  have hlen : (ps.take l).length = l := by rw [List.length_take]; omega
  exact ⟨_, cap, by rw [hlen], by rw [hlen]; omega, h3, h4, h5.toR l hl⟩
theorem SlR.from' {w : World} {g og n cap : Nat} {ps : List α} (h : SlR R w (.slice (some ⟨g, og, none⟩) n cap) ps) (l : Nat) (hl : l ≤ n) :
    SlR R w (.slice (if cap = l then some ⟨g, og, none⟩ else some ⟨g, og + l * R.n, none⟩) (n - l) (cap - l)) (ps.drop l) := by
  obtain ⟨a, cap', h1, h2, h3, h4, h5⟩ := h
  simp only [Value.slice.injEq] at h1
  obtain ⟨rfl, rfl, rfl⟩ := h1
  have hlen : (ps.drop l).length = ps.length - l := by rw [List.length_drop]
  have hr := h5.fromR l hl
  simp only [Option.map_some, add_plain] at hr
  by_cases hc : cap = l
  · have hz : ps.length - l = 0 := by omega
    rw [if_pos hc]
    have hd : ps.drop l = [] := List.eq_nil_of_length_eq_zero (by omega)
    refine ⟨_, cap - l, by rw [hlen], by rw [hlen]; omega, fun e => (by cases e), fun _ e => (by cases e; rfl), ?_⟩
    rw [hd]; exact .inl rfl
  · rw [if_neg hc]
    exact ⟨_, cap - l, by rw [hlen], by rw [hlen]; omega, fun e => (by cases e), fun _ e => (by cases e; rfl), hr⟩
theorem SlR.oneR (w : World) (x : α) (e : TypeId) : SlR R (w.alloc (.cells (R.enc x).toArray e)) (.slice (some ⟨w.heap.size, 0, none⟩) 1 1) [x] := by
  refine ⟨_, 1, rfl, Nat.le_refl _, fun e => (by cases e), fun _ h => (by cases h; rfl), .inr ⟨_, _, rfl, by simp, fun j u hj => ?_⟩⟩
  rw [Rec.flat_one] at hj
  have := cells_new w (R.enc x) e j u hj
  rwa [add_plain] at this
theorem SlR.alloc {w : World} {v : Value} {ps : List α} (h : SlR R w v ps) (o : Obj) : SlR R (w.alloc o) v ps := h.below ((Below.refl _ _).alloc (Nat.le_refl _) o)
theorem SlR.grownR {w w' : World} {b off n c : Nat} {ps : List α} {row : Option Nat} (h : SlR R w (.slice (some ⟨b, off, none⟩) n c) ps) (hg : w.grownBy w' row) (hne : row ≠ some b) : SlR R w' (.slice (some ⟨b, off, none⟩) n c) ps := by
  obtain ⟨a, cap, h1, h2, h3, h4, h5⟩ := h
  simp only [Value.slice.injEq] at h1
  obtain ⟨rfl, rfl, rfl⟩ := h1
  refine ⟨_, _, rfl, h2, h3, h4, ?_⟩
  rcases h5 with h5 | ⟨b', o', e, hb, hc⟩
  · exact .inl h5
  · simp only [Option.some.injEq, Addr.mk.injEq, and_true] at e
    obtain ⟨rfl, rfl⟩ := e
    refine .inr ⟨b, off, rfl, Nat.lt_of_lt_of_le hb hg.size, fun j u hj => ?_⟩
    have := hc j u hj
    simp only [World.cell?] at this ⊢
    rw [hg.block b hb (Ne.symm hne)]
    exact this
theorem run_appR {P : Program} (w : World) (base : Nat) (t ty e : TypeId) (i : TypeInfo) (z : Value) (size bytes : Nat) (ht : P.underlying t = some (.slice e)) (hi : P.info? e = some i) (hz : i.zero = some z)
    (hsize : i.size = size) (hby : i.bytes = bytes) (hzs : z.cells.size = size) (hR : R.n = size) {v : Value} {n : Nat} {xs : List Value} (hown : w.ownsRow base e size v n xs) {vx : Value} {qs : List α} (hx : SlR R w vx qs)
    (b1 : n + qs.length ≤ maxLen) (b2 : (n + qs.length) * bytes ≤ 140737488355328) (hbase : base ≤ w.heap.size) :
    ∃ v' w', (Builtin.append_ #[t, t] ty #[v, vx]).run P w = .ok v' w' ∧ w'.ownsRow base e size v' (n + qs.length) (xs ++ R.flat qs) ∧ w.grownBy w' v.ownBlock ∧ (v' = .slice none 0 0 → v = .slice none 0 0) := by
  obtain ⟨a, cap, rfl, hl, hn, hs, hrow⟩ := hx
  have hpos := R.pos
  cases a with
  | none =>
    obtain rfl := hn rfl
    obtain rfl : qs = [] := List.eq_nil_of_length_eq_zero (by omega)
    refine ⟨v, w, run_append_owned_none (P := P) (w := w) base t ty e i size ht hi v n xs hown, by simpa [Rec.flat] using hown, World.grownBy.refl _ _, fun h => h⟩
  | some ad =>
    obtain ⟨b, off, sb⟩ := ad
    obtain rfl : sb = none := hs _ rfl
    have hc : ∀ j u, (R.flat qs)[j]? = some u → w.cell? (Addr.add ⟨b, off, none⟩ j) = some u := fun j u hj => by
      rcases hrow with h0 | ⟨b', off', h1, _, h3⟩
      · rw [h0] at hj; cases hj
      · cases h1; rw [add_plain]; exact h3 j u hj
    obtain ⟨v', w', h1, h2, h3, h4⟩ := run_append_own (P := P) w base t ty e i z size bytes ht hi hz hsize hby hzs (by omega) v n xs hown ⟨b, off, none⟩ qs.length cap (R.flat qs) (by rw [Rec.flat_len, hR]) hc (Rec.flat_one_cell qs) b1 b2 hbase
    exact ⟨v', w', h1, h2, h3, fun h => (h4.1 h).1⟩
/-- append to an own row of records, of whatever slice, as one step of a region that draws. -/
theorem step_appR {P : Program} {ops : Array Oper} {o : Oper} {a : Act} {w : World} {K : Act → World → Prop} {Q : Exit → Act → World → Prop} {E : Prop} (R : Rec α)
    (hg : o.guard = none) (s x : Operand) (t : TypeId) (hop : o.op = Op.call { callee := Callee.builtin Builtin.append, args := #[s, x], argTypes := #[t, t] })
    (base : Nat) (e : TypeId) (i : TypeInfo) (z : Value) (size bytes : Nat) (h1 : P.underlying t = some (.slice e)) (h2 : P.info? e = some i) (h3 : i.zero = some z) (h4 : i.size = size) (h5 : i.bytes = bytes) (h6 : z.cells.size = size) (hR : R.n = size)
    {v : Value} {n : Nat} {xs : List Value} (hs : a.eval s = v) (hown : w.ownsRow base e size v n xs) {vx : Value} {qs : List α} (hx : a.eval x = vx) (hsl : SlR R w vx qs)
    (b1 : n + qs.length ≤ maxLen) (b2 : (n + qs.length) * bytes ≤ 140737488355328) (hbase : base ≤ w.heap.size)
    (hK : ∀ v' w', w'.ownsRow base e size v' (n + qs.length) (xs ++ R.flat qs) → w.grownBy w' v.ownBlock → (v' = .slice none 0 0 → v = .slice none 0 0) → K (a.put o.dst v') w') :
    if Region.wanted o (yielded ops a.tmps) = true then Oper.wp P o a w K Q else E := by
  have hw : Region.wanted o (yielded ops a.tmps) = true := by simp [Region.wanted, hg]
  rw [if_pos hw]
  obtain ⟨v', w', hr, r2, r3, r4⟩ := run_appR (P := P) (R := R) w base t o.type e i z size bytes h1 h2 h3 h4 h5 h6 hR hown hsl b1 b2 hbase
  unfold Oper.wp execOp
  simp only [hop, resolve, invoke, builtin, Sem.run_bind, Sem.run_pure, Result.andThen_ok, List.map_toArray, List.map_cons, List.map_nil, hs, hx, hr]
  exact hK v' w' r2 r3 r4
end Go.Proofs.Ytgojieabeaalcaa
/-
  WHAT IS TOLD OF A GRAPH's ROWS: one node's row, both ways, and the ends of an edge (csr.rows.of, row, Out, In, Degree, Ends, Nodes, Edges), by contract.
-/
namespace Go.Proofs.Ytgojieabeaalcaa
open Go.ChangeShapes Go.WideShapes Go.ChangeAt Go.RowKit Go.Maps

/-- Whose arcs they are, in order. -/
def rowI (D : Nat → Nat) (l : List Nat) (N : Nat) (n : Int) : List Nat := if 0 ≤ n ∧ n < N then part D l n.toNat else []
theorem below_le_sorted (D : Nat → Nat) (l : List Nat) {b M : Nat} (h : b ≤ M) : below D l b ≤ (sorted D l M).length := below_mono D l h
theorem row_cut {α : Type} (D : Nat → Nat) (l : List Nat) (f : Nat → α) (b M : Nat) (h : b < M) : (((sorted D l M).map f).take (below D l (b + 1))).drop (below D l b) = (part D l b).map f := by
  have hm : below D l (b + 1) ≤ (sorted D l M).length := below_le_sorted D l h
  have hs := below_succ D l b
  apply List.ext_getElem?
  intro j
  rw [List.getElem?_drop, List.getElem?_take]
  by_cases hj : j < (part D l b).length
  · rw [if_pos (by omega), List.getElem?_map, sorted_at D l M b j h hj, List.getElem?_map]
  · rw [if_neg (by omega), List.getElem?_eq_none (by simp; omega)]
theorem row_cut_len (D : Nat → Nat) (l : List Nat) (b : Nat) : below D l (b + 1) - below D l b = (part D l b).length := by
  rw [below_succ]; omega
theorem nat_at {w : World} {a : Option Addr} {M : Nat} {f : Nat → Nat} (h : RowAt w a (cellsN M f)) {k : Nat} (hk : k < M) : ∃ b o, a = some ⟨b, o, none⟩ ∧ b < w.heap.size ∧ w.cell? ⟨b, o + k, none⟩ = some (.int .i64 (f k : Nat)) := by
  rcases h with h0 | ⟨b, o, rfl, hb, hc⟩
  · have := congrArg List.length h0
    rw [cellsN_len] at this
    simp at this; omega
  · exact ⟨b, o, rfl, hb, hc k _ (cellsN_at f hk)⟩
set_option maxHeartbeats 1600000 in
set_option maxRecDepth 100000 in
theorem of_c (D : Nat → Nat) (l : List Nat) (f : Nat → Ar) (N : Nat) (sa : Option Addr) (sc : Nat) (aa : Option Addr) (ak ac : Nat) (n : Int) (w : World) (hN : N ≤ 1000) (hst : RowAt w sa (cellsN (N + 1) (below D l))) (har : SlR arR w (.slice aa ak ac) ((sorted D l (N + 1)).map f)) (hl : (sorted D l (N + 1)).length ≤ 1000) :
    Calls Try.prog 57 #[.agg #[.slice sa (N + 1) sc, .slice aa ak ac], .int .i64 n] w fun e w' => ∃ a' n' c', e = .returned (.slice a' n' c') ∧ SlR arR w' (.slice a' n' c') ((rowI D l N n).map f) ∧ Below w.heap.size w w' := by
  have hB0 : Hid (Below w.heap.size w (w.alloc (.cells #[.slice sa (N + 1) sc, .slice aa ak ac] 82))) := (Below.refl _ _).alloc (Nat.le_refl _) _
  obtain ⟨⟨b0, b1⟩, -⟩ := box2f (heap_alloc_new w (.cells #[.slice sa (N + 1) sc, .slice aa ak ac] 82))
  by_cases hneg : n < 0
  · have hr : Hid (rowI D l N n = []) := hidden (if_neg (by omega))
    go_enter Try.func57, Try.ntmps57
    go_wp2
    go_ret
    refine ⟨none, 0, 0, rfl, ?_, hB0.out⟩
    rw [hr.out]
    exact ⟨none, 0, rfl, Nat.le_refl _, fun _ => rfl, fun _ e => (by cases e), .inl rfl⟩
  · by_cases hge : (N : Int) ≤ n
    · have hr : Hid (rowI D l N n = []) := hidden (if_neg (by omega))
      go_enter Try.func57, Try.ntmps57
      go_wp2
      go_ret
      refine ⟨none, 0, 0, rfl, ?_, hB0.out⟩
      rw [hr.out]
      exact ⟨none, 0, rfl, Nat.le_refl _, fun _ => rfl, fun _ e => (by cases e), .inl rfl⟩
    · obtain ⟨b, rfl⟩ := Int.eq_ofNat_of_zero_le (show 0 ≤ n by omega)
      have hbN : b < N := by omega
      have hr : Hid ((rowI D l N (b : Int)).map f = (part D l b).map f) := hidden (by unfold rowI; rw [if_pos (by omega)]; rfl)
      have hcut := hidden (row_cut D l f b (N + 1) (by omega))
      have hlo : below D l b ≤ below D l (b + 1) := below_mono D l (Nat.le_succ b)
      have hhi : below D l (b + 1) ≤ (sorted D l (N + 1)).length := below_le_sorted D l (by omega)
      obtain ⟨g1, o1, rfl, hb1, c0⟩ := nat_at hst (k := b) (by omega)
      obtain ⟨g2, o2, h2, hb2, c1⟩ := nat_at hst (k := b + 1) (by omega)
      cases h2
      have hAB := (Below.refl w.heap.size w).alloc (Nat.le_refl _) (.cells #[.slice (some ⟨g1, o1, none⟩) (N + 1) sc, .slice aa ak ac] 82)
      have d0 := (hAB.cell (p := ⟨g1, o1 + b, none⟩) hb1).trans c0
      have d1 := (hAB.cell (p := ⟨g1, o1 + (b + 1), none⟩) hb1).trans c1
      have d2 := d1
      rw [← Nat.add_assoc] at d2
      have hbi : (b : Int) < (N : Int) + 1 := by omega
      have hbi2 : (b : Int) + 1 < (N : Int) + 1 := by omega
      have hsl := har.calm (.of_below hAB)
      obtain ⟨a', c', he, hk1, hk2, hk3, hk4⟩ := id har
      simp only [Value.slice.injEq, List.length_map] at he
      obtain ⟨rfl, rfl, rfl⟩ := he
      rw [List.length_map] at hk1
      replace hk3 := hidden hk3
      replace hk4 := hidden hk4
      replace hsl := hidden hsl
      have c2 := c1
      rw [← Nat.add_assoc] at c2
      clear hst har hAB
      generalize below D l b = lo at *
      generalize below D l (b + 1) = hi at *
      replace hneg : (0 : Int) ≤ b := by omega
      have hb9 : b < 1000 := by omega
      have hi9 : hi ≤ 1000 := by omega
      have hfin : Hid (SlR arR (w.alloc (.cells #[.slice (some ⟨g1, o1, none⟩) (N + 1) sc, .slice aa (sorted D l (N + 1)).length ac] 82)) (.slice (if ac = lo then aa else aa.map (·.add (lo * 4))) (hi - lo) (ac - lo)) ((rowI D l N (b : Int)).map f)) := by
        rw [hr.out, ← hcut.out]
        have hlen : (((sorted D l (N + 1)).map f).take hi).length = hi := by rw [List.length_take, List.length_map]; omega
        obtain ⟨a', c', he, q1, q2, q3, q4⟩ := hsl.out
        simp only [Value.slice.injEq] at he
        obtain ⟨rfl, _, rfl⟩ := he
        have hrow := (q4.toR hi (by rw [List.length_map]; omega)).fromR lo (by rw [hlen]; omega)
        refine ⟨_, _, by rw [List.length_drop, hlen], by rw [List.length_drop, hlen]; omega, fun e => ?_, fun x e => ?_, ?_⟩
        · split at e
          · omega
          · have := q2 (by simpa using e); omega
        · split at e
          · exact q3 x e
          · obtain ⟨y, hy, rfl⟩ := Option.map_eq_some_iff.1 e
            have := q3 y hy
            obtain ⟨b', off, sb⟩ := y
            simp only at this
            subst this
            rw [add_plain]
        · split
          · rename_i hc
            have h0 : (((sorted D l (N + 1)).map f).take hi).drop lo = [] := List.drop_eq_nil_of_le (by rw [hlen]; omega)
            rw [h0]
            exact .inl rfl
          · exact hrow
      clear hr hcut hsl
      generalize (rowI D l N (b : Int)).map f = R at *
      by_cases hcl : ac = lo
      · subst hcl
        simp only [if_true, Nat.sub_self] at hfin
        go_enter Try.func57, Try.ntmps57
        go_wp2
        go_region
        go_wp2
        go_ret
        exact ⟨_, _, _, rfl, hfin.out, hB0.out.drew⟩
      · rw [if_neg hcl] at hfin
        go_enter Try.func57, Try.ntmps57
        go_wp2
        go_region
        go_wp2
        go_ret
        exact ⟨_, _, _, rfl, hfin.out, hB0.out.drew⟩
set_option maxHeartbeats 3200000 in
set_option maxRecDepth 100000 in
theorem aclone_c (a : Option Addr) (c : Nat) (ps : List Ar) (w : World) (hv : RowAt w a (arR.flat ps)) (hx : ps.length ≤ 1000) (hc : a = none → c = 0) :
    Calls Try.prog 39 #[.slice a ps.length c] w fun e w' => ∃ a' c', e = .returned (.slice a' ps.length c') ∧ w'.ownsRow w.heap.size 58 4 (.slice a' ps.length c') ps.length (arR.flat ps) ∧ Below w.heap.size w w' := by
  obtain ⟨i0, hi, hz0, hz1, hz2⟩ := info_parts infoA
  match a, hv, hc with
  | none, hv, hc =>
    obtain rfl := hc rfl
    obtain rfl : ps = [] := by
      rcases hv with h0 | ⟨b, off, h, _⟩
      · have := congrArg List.length h0
        rw [Rec.flat_len] at this
        have : ps.length * 4 = 0 := this
        exact List.eq_nil_of_length_eq_zero (by omega)
      · cases h
    have hB : Hid (Below w.heap.size w w) := Below.refl _ _
    have hne : ∀ x : World, Sem.run Try.prog (binOp BinOp.eql 46 (.slice none 0 0) (.slice none 0 0)) x = .ok (.bool true) x := fun x => by rfl
    simp only [List.length_nil]
    go_enter Try.func39, Try.ntmps39
    go_wp2
    go_ret
    exact ⟨_, _, rfl, ⟨rfl, .inl ⟨rfl, rfl⟩⟩, hB.out⟩
  | some ad, hv, _ =>
    have hnews : ∀ j u, (arR.flat ps)[j]? = some u → w.cell? (ad.add j) = some u := by
      intro j u hj
      rcases hv with h0 | ⟨b, off, h, _, h3⟩
      · rw [h0] at hj; cases hj
      · cases h
        rw [add_plain]; exact h3 j u hj
    have hbl : ∀ j u, (arR.flat ps)[j]? = some u → (w.alloc (.cells #[] 58)).cell? (ad.add j) = some u := fun j u hj => by
      have h := hnews j u hj
      rcases hv with h0 | ⟨b, off, h', hb, h3⟩
      · rw [h0] at hj; cases hj
      · cases h'
        exact (((Below.refl w.heap.size w).alloc (Nat.le_refl _) _).cell (p := (⟨b, off, none⟩ : Addr).add j) (by rw [add_plain]; exact hb)).trans h
    have hne : ∀ x : World, Sem.run Try.prog (binOp BinOp.eql 46 (.slice (some ad) ps.length c) (.slice none 0 0)) x = .ok (.bool false) x := fun x => by rfl
    replace hnews := hidden hnews
    replace hv := hidden hv
    replace hbl := hidden hbl
    go_enter Try.func39, Try.ntmps39
    go_wp2_with (at_builtin; go_loud (refine wpList_append_own _ rfl _ _ 46 rfl w.heap.size 58 i0 (.agg #[.int .i64 0, .int .i64 0, .int .i64 0, .int .i64 0]) 4 32 Try.underlying46 hi hz0 hz1 hz2 rfl (by decide) _ _ _ rfl (World.ownsRow_made w #[] 0 (Nat.le_refl _) (by unfold maxLen; omega) rfl) ad ps.length c (arR.flat ps) rfl (Rec.flat_len ps) hbl.out (Rec.flat_one_cell ps) (by unfold maxLen; omega) (by omega) (by simp) ?_); intro v' w1 hown' hgrow _)
    have hB3 : Hid (Below w.heap.size w w1) := ((Below.refl _ _).alloc (Nat.le_refl _) _).grown hgrow (by simp) (fun j hj => by cases hj; exact Nat.le_refl _)
    simp only [Nat.zero_add, List.nil_append] at hown'
    obtain ⟨a1, c1, rfl⟩ := own_shape hown'
    have hr1 := hidden hown'
    clear hgrow hown'
    go_wp2
    go_ret
    exact ⟨_, _, rfl, hr1.out, hB3.out⟩
def CsX.l (C : CsX) : Bool → List Nat
  | true => C.l2
  | false => C.l1
/-- A node's arcs. -/
def rowA (g : Gr) (C : CsX) (back : Bool) (n : Int) : List Ar := (rowI (whoOf g.es back) (C.l back) g.ns.length n).map fun p => (arcsL C.L g.es back).getD p Ar.none
theorem sorted_len (D : Nat → Nat) {l : List Nat} {n M : Nat} (hl : l.Perm (List.range n)) (hD : ∀ p, D p < M) : (sorted D l M).length = n := by
  have h := below_allM hD l
  rw [hl.length_eq, List.length_range] at h
  exact h
theorem part_len_le (D : Nat → Nat) (l : List Nat) (b : Nat) : (part D l b).length ≤ l.length := by unfold part; exact List.length_filter_le _ _
theorem rowA_len (g : Gr) (C : CsX) (back : Bool) (n : Int) : (rowA g C back n).length ≤ (C.l back).length := by
  unfold rowA rowI
  split
  · rw [List.length_map]; exact part_len_le _ _ _
  · simp
set_option maxHeartbeats 1600000 in
set_option maxRecDepth 100000 in
theorem row_c (g : Gr) (C : CsX) (B : Nat) (back : Bool) (n : Int) (w : World) (hC : CsrAt g C B w) (hok : (checkG g).2 = 0) (hn : g.ns.length ≤ 1000) (he : g.es.length ≤ 1000) :
    Calls Try.prog 40 #[.pointer (some ⟨C.b, 0, none⟩), .int .i64 n, .bool back] w fun e w' => ∃ a' n' c', e = .returned (.slice a' n' c') ∧ SlR arR w' (.slice a' n' c') (rowA g C back n) ∧ Below w.heap.size w w' := by
  have hge := good_edges hok
  have hD : ∀ bk p, whoOf g.es bk p < g.ns.length + 1 := fun bk p => by
    by_cases hp : p < g.es.length
    · obtain ⟨v1, v2, v3, v4, v5, v6⟩ := hge _ (getD_memG (d := Eg.none) hp)
      cases bk
      · show fromOf g.es p < _; unfold fromOf; omega
      · show toOf g.es p < _; unfold toOf; omega
    · cases bk
      · show fromOf g.es p < _; unfold fromOf; rw [getD_out (by omega)]; exact Nat.succ_pos _
      · show toOf g.es p < _; unfold toOf; rw [getD_out (by omega)]; exact Nat.succ_pos _
  obtain ⟨b, lc, gl, ge, s1, a1, s2, a2, L, l1, l2⟩ := C
  have hp1 := hC.o1.perm
  have hp2 := hC.o2.perm
  have hl1 := sorted_len (whoOf g.es false) hp1 (hD false)
  have hl2 := sorted_len (whoOf g.es true) hp2 (hD true)
  obtain ⟨hbox, -, -, -, -, -, -, -, st1, st2, ar1, ar2⟩ := hC
  simp only at hbox hp1 hp2 hl1 hl2 st1 st2 ar1 ar2
  obtain ⟨sa, sc, rfl⟩ := own_shape st1
  obtain ⟨aa, ac, rfl⟩ := own_shape ar1
  obtain ⟨sb, sd, rfl⟩ := own_shape st2
  obtain ⟨ab, ad, rfl⟩ := own_shape ar2
  have hf1 := of_c (whoOf g.es false) l1 (fun p => (arcsL L g.es false).getD p Ar.none) g.ns.length sa sc aa g.es.length ac n w hn (by
    obtain ⟨a', c', h1, h2⟩ := holds_of_owns st1
    simp only [Value.slice.injEq] at h1
    obtain ⟨rfl, _, _⟩ := h1
    rw [show cellsN (g.ns.length + 1) (Go.Proofs.Ytgojieabeaalcaa.below (whoOf g.es false) l1) = cellsN (g.ns.length + 1) (Go.Proofs.Ytgojieabeaalcaa.below (whoOf g.es false) (List.range g.es.length)) from congrArg _ (funext fun i => below_perm hp1 i)]
    exact h2) (slR_of_owns (by rw [List.length_map, hl1]; exact ar1)) (by rw [hl1]; exact he)
  have hf2 := of_c (whoOf g.es true) l2 (fun p => (arcsL L g.es true).getD p Ar.none) g.ns.length sb sd ab g.es.length ad n w hn (by
    obtain ⟨a', c', h1, h2⟩ := holds_of_owns st2
    simp only [Value.slice.injEq] at h1
    obtain ⟨rfl, _, _⟩ := h1
    rw [show cellsN (g.ns.length + 1) (Go.Proofs.Ytgojieabeaalcaa.below (whoOf g.es true) l2) = cellsN (g.ns.length + 1) (Go.Proofs.Ytgojieabeaalcaa.below (whoOf g.es true) (List.range g.es.length)) from congrArg _ (funext fun i => below_perm hp2 i)]
    exact h2) (slR_of_owns (by rw [List.length_map, hl2]; exact ar2)) (by rw [hl2]; exact he)
  obtain ⟨⟨-, -, -, c3, c4, c5, c6⟩, -⟩ := box7c hbox
  have e1 : Hid (rowA g ⟨b, lc, gl, ge, .slice sa (g.ns.length + 1) sc, .slice aa g.es.length ac, .slice sb (g.ns.length + 1) sd, .slice ab g.es.length ad, L, l1, l2⟩ false n = (rowI (whoOf g.es false) l1 g.ns.length n).map fun p => (arcsL L g.es false).getD p Ar.none) := hidden rfl
  have e2 : Hid (rowA g ⟨b, lc, gl, ge, .slice sa (g.ns.length + 1) sc, .slice aa g.es.length ac, .slice sb (g.ns.length + 1) sd, .slice ab g.es.length ad, L, l1, l2⟩ true n = (rowI (whoOf g.es true) l2 g.ns.length n).map fun p => (arcsL L g.es true).getD p Ar.none) := hidden rfl
  clear hge hD hp1 hp2 hl1 hl2 hbox st1 st2 ar1 ar2
  simp only
  cases back
  · rw [e1.out]
    clear hf2 c5 c6 e1 e2
    generalize (rowI (whoOf g.es false) l1 g.ns.length n).map _ = R at *
    go_enter Try.func40, Try.ntmps40
    go_wp2_with fail
    refine hf1.mono ?_
    rintro e w1 ⟨a', n', c', rfl, hS, hB⟩
    replace hS := hidden hS
    replace hB := hidden hB
    go_wp2
    go_ret
    exact ⟨_, _, _, rfl, hS.out, hB.out⟩
  · rw [e2.out]
    clear hf1 c3 c4 e1 e2
    generalize (rowI (whoOf g.es true) l2 g.ns.length n).map _ = R at *
    go_enter Try.func40, Try.ntmps40
    go_wp2_with fail
    refine hf2.mono ?_
    rintro e w1 ⟨a', n', c', rfl, hS, hB⟩
    replace hS := hidden hS
    replace hB := hidden hB
    go_wp2
    go_ret
    exact ⟨_, _, _, rfl, hS.out, hB.out⟩
set_option maxRecDepth 100000 in
theorem out_c (g : Gr) (C : CsX) (B : Nat) (n : Int) (w : World) (hC : CsrAt g C B w) (hok : (checkG g).2 = 0) (hn : g.ns.length ≤ 1000) (he : g.es.length ≤ 1000) :
    Calls Try.prog 19 #[.pointer (some ⟨C.b, 0, none⟩), .int .i64 n] w fun e w' => ∃ a' c', e = .returned (.slice a' (rowA g C false n).length c') ∧ w'.ownsRow w.heap.size 58 4 (.slice a' (rowA g C false n).length c') (rowA g C false n).length (arR.flat (rowA g C false n)) ∧ Below w.heap.size w w' := by
  have hr := row_c g C B false n w hC hok hn he
  have hlen : (rowA g C false n).length ≤ 1000 := by
    have h1 := rowA_len g C false n
    have h2 := hC.o1.len
    exact Nat.le_trans h1 (Nat.le_trans (Nat.le_of_eq h2) he)
  clear hC hok hn he
  generalize rowA g C false n = R at *
  go_enter Try.func19, Try.ntmps19
  go_wp2_with fail
  refine hr.mono ?_
  rintro e w1 ⟨a', n', c', rfl, ⟨a, cap, h1, h2, h3, h4, h5⟩, hB⟩
  simp only [Value.slice.injEq] at h1
  obtain ⟨rfl, rfl, rfl⟩ := h1
  have hcl := aclone_c _ _ R w1 h5 hlen h3
  replace h4 := hidden h4
  replace hB := hidden hB
  clear hr h3 h5
  go_wp2_with fail
  refine hcl.mono ?_
  rintro e w2 ⟨a2, c2, rfl, hr2, hB2⟩
  replace hB2 : Hid (Below w.heap.size w w2) := hB.out.trans (hB2.mono hB.out.size)
  replace hr2 := hidden (own_le hr2 hB.out.size)
  clear hcl
  go_wp2
  go_ret
  exact ⟨_, _, rfl, hr2.out, hB2.out⟩
set_option maxRecDepth 100000 in
theorem in_c (g : Gr) (C : CsX) (B : Nat) (n : Int) (w : World) (hC : CsrAt g C B w) (hok : (checkG g).2 = 0) (hn : g.ns.length ≤ 1000) (he : g.es.length ≤ 1000) :
    Calls Try.prog 21 #[.pointer (some ⟨C.b, 0, none⟩), .int .i64 n] w fun e w' => ∃ a' c', e = .returned (.slice a' (rowA g C true n).length c') ∧ w'.ownsRow w.heap.size 58 4 (.slice a' (rowA g C true n).length c') (rowA g C true n).length (arR.flat (rowA g C true n)) ∧ Below w.heap.size w w' := by
  have hr := row_c g C B true n w hC hok hn he
  have hlen : (rowA g C true n).length ≤ 1000 := by
    have h1 := rowA_len g C true n
    have h2 := hC.o2.len
    exact Nat.le_trans h1 (Nat.le_trans (Nat.le_of_eq h2) he)
  clear hC hok hn he
  generalize rowA g C true n = R at *
  go_enter Try.func21, Try.ntmps21
  go_wp2_with fail
  refine hr.mono ?_
  rintro e w1 ⟨a', n', c', rfl, ⟨a, cap, h1, h2, h3, h4, h5⟩, hB⟩
  simp only [Value.slice.injEq] at h1
  obtain ⟨rfl, rfl, rfl⟩ := h1
  have hcl := aclone_c _ _ R w1 h5 hlen h3
  replace h4 := hidden h4
  replace hB := hidden hB
  clear hr h3 h5
  go_wp2_with fail
  refine hcl.mono ?_
  rintro e w2 ⟨a2, c2, rfl, hr2, hB2⟩
  replace hB2 : Hid (Below w.heap.size w w2) := hB.out.trans (hB2.mono hB.out.size)
  replace hr2 := hidden (own_le hr2 hB.out.size)
  clear hcl
  go_wp2
  go_ret
  exact ⟨_, _, rfl, hr2.out, hB2.out⟩
set_option maxHeartbeats 1600000 in
set_option maxRecDepth 100000 in
theorem ends_c (g : Gr) (C : CsX) (B : Nat) (n : Int) (w : World) (hC : CsrAt g C B w) (he : g.es.length ≤ 1000) :
    Calls Try.prog 26 #[.pointer (some ⟨C.b, 0, none⟩), .int .i64 n] w fun e w' => e = .returned (if 0 ≤ n ∧ n < g.es.length then .tuple #[.int .i64 (fromOf g.es n.toNat : Nat), .int .i64 (toOf g.es n.toNat : Nat), .bool true] else .tuple #[.int .i64 0, .int .i64 0, .bool false]) ∧ Below w.heap.size w w' := by
  obtain ⟨⟨-, -, c2, -⟩, -⟩ := box7c hC.box
  have hB0 := hidden (Below.refl w.heap.size w)
  by_cases hneg : n < 0
  · rw [if_neg (by omega)]
    clear hC c2
    go_enter Try.func26, Try.ntmps26
    go_wp2
    go_ret3
    exact ⟨rfl, hB0.out⟩
  · by_cases hge : (g.es.length : Int) ≤ n
    · rw [if_neg (by omega)]
      clear hC
      go_enter Try.func26, Try.ntmps26
      go_wp2
      go_ret3
      exact ⟨rfl, hB0.out⟩
    · obtain ⟨b, rfl⟩ := Int.eq_ofNat_of_zero_le (show 0 ≤ n by omega)
      have hbE : b < g.es.length := by omega
      rw [if_pos (by omega)]
      have hcell : ∀ r u, (endR.enc (endOf g.es b))[r]? = some u → w.cell? ⟨C.ge, b * 2 + r, none⟩ = some u := fun r u hu => by
        have hr : r < 2 := by have := (List.getElem?_eq_some_iff.1 hu).1; rw [endR.len] at this; exact this
        rw [hC.ends.cellAt _ (by omega)]
        have h1 := Rec.flat_at (R := endR) ((List.range g.es.length).map (endOf g.es)) b r (by simpa using hbE) hr
        refine (show _ = _ from h1).trans ?_
        rw [show ((List.range g.es.length).map (endOf g.es)).getD b endR.dflt = endOf g.es b by simp [List.getD, hbE]]
        exact hu
      have e0 := hcell 0 _ rfl
      have e1 := hcell 1 _ rfl
      rw [Nat.add_zero] at e0
      simp only [endOf] at e0 e1
      have hbi : (b : Int) < (g.es.length : Int) := by omega
      have hb9 : b < 1000 := by omega
      have hbN : Hid ((b : Int).toNat = b) := hidden rfl
      show Calls _ _ _ _ fun e w' => e = .returned (.tuple #[.int .i64 (fromOf g.es b : Nat), .int .i64 (toOf g.es b : Nat), .bool true]) ∧ Below w.heap.size w w'
      unfold fromOf toOf
      generalize (g.es.getD b Eg.none).f.toNat = x at *
      generalize (g.es.getD b Eg.none).t.toNat = y at *
      clear hC hcell hbN
      go_enter Try.func26, Try.ntmps26
      go_wp2
      go_region
      go_wp2
      go_ret3
      exact ⟨rfl, hB0.out.drew⟩
end Go.Proofs.Ytgojieabeaalcaa
