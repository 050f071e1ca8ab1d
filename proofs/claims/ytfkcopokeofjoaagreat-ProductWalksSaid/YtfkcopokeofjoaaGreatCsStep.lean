/-
  ROWS OF RECORDS: cut, and appended to own rows of records, whatever they are. No function is named here.
-/
import Derived.Test.YtfkcopokeofjoaaGreatRec
import Derived.Test.YtfkcopokeofjoaaGreatCsNew
import Derived.Test.YtfkcopokeofjoaaGreatLabelsN
import Derived.Deep.QuietTactic
import Derived.BigQuiet
import Derived.Laws.StructEq
namespace Go.Proofs.YtfkcopokeofjoaaGreat
open Go.ChangeShapes Go.WideShapes Go.ChangeAt Go.RowKit

variable {α : Type} {R : Rec α}
theorem SlR.nil (w : World) : SlR R w (.slice none 0 0) [] := ⟨none, 0, rfl, Nat.le_refl _, fun _ => rfl, fun _ e => (by cases e), .inl rfl⟩
theorem SlR.to' {w : World} {g og n cap : Nat} {ps : List α} (h : SlR R w (.slice (some ⟨g, og, none⟩) n cap) ps) (l : Nat) (hl : l ≤ n) : SlR R w (.slice (some ⟨g, og, none⟩) l cap) (ps.take l) := by
  obtain ⟨a, cap', h1, h2, h3, h4, h5⟩ := h
  simp only [Value.slice.injEq] at h1
  obtain ⟨rfl, rfl, rfl⟩ := h1
  have hlen : (ps.take l).length = l := by rw [List.length_take]; omega
  exact ⟨_, cap, by rw [hlen], by rw [hlen]; omega, h3, h4, h5.toR l hl⟩
theorem SlR.from' {w : World} {g og n cap : Nat} {ps : List α} (h : SlR R w (.slice (some ⟨g, og, none⟩) n cap) ps) (l : Nat) (hl : l ≤ n) :
    SlR R w (.slice (if cap = l then some ⟨g, og, none⟩ else some ⟨g, og + l * R.n, none⟩) (n - l) (cap - l)) (ps.drop l) := by
  obtain ⟨a, cap', h1, h2, h3, h4, h5⟩ := h
  simp only [Value.slice.injEq] at h1
  obtain ⟨rfl, rfl, rfl⟩ := h1
  have hlen : (ps.drop l).length = ps.length - l := by rw [List.length_drop]
  have hr := h5.fromR l hl
  simp only [Option.map_some, add_plain] at hr
  by_cases hc : cap = l
  · have hz : ps.length - l = 0 := by omega
    rw [if_pos hc]
    have hd : ps.drop l = [] := List.eq_nil_of_length_eq_zero (by omega)
    refine ⟨_, cap - l, by rw [hlen], by rw [hlen]; omega, fun e => (by cases e), fun _ e => (by cases e; rfl), ?_⟩
    rw [hd]; exact .inl rfl
  · rw [if_neg hc]
    exact ⟨_, cap - l, by rw [hlen], by rw [hlen]; omega, fun e => (by cases e), fun _ e => (by cases e; rfl), hr⟩
theorem SlR.oneR (w : World) (x : α) (e : TypeId) : SlR R (w.alloc (.cells (R.enc x).toArray e)) (.slice (some ⟨w.heap.size, 0, none⟩) 1 1) [x] := by
  refine ⟨_, 1, rfl, Nat.le_refl _, fun e => (by cases e), fun _ h => (by cases h; rfl), .inr ⟨_, _, rfl, by simp, fun j u hj => ?_⟩⟩
  rw [Rec.flat_one] at hj
  have := cells_new w (R.enc x) e j u hj
  rwa [add_plain] at this
theorem SlR.alloc {w : World} {v : Value} {ps : List α} (h : SlR R w v ps) (o : Obj) : SlR R (w.alloc o) v ps := h.below ((Below.refl _ _).alloc (Nat.le_refl _) o)
theorem SlR.grownR {w w' : World} {b off n c : Nat} {ps : List α} {row : Option Nat} (h : SlR R w (.slice (some ⟨b, off, none⟩) n c) ps) (hg : w.grownBy w' row) (hne : row ≠ some b) : SlR R w' (.slice (some ⟨b, off, none⟩) n c) ps := by
  obtain ⟨a, cap, h1, h2, h3, h4, h5⟩ := h
  simp only [Value.slice.injEq] at h1
  obtain ⟨rfl, rfl, rfl⟩ := h1
  refine ⟨_, _, rfl, h2, h3, h4, ?_⟩
  rcases h5 with h5 | ⟨b', o', e, hb, hc⟩
  · exact .inl h5
  · simp only [Option.some.injEq, Addr.mk.injEq, and_true] at e
    obtain ⟨rfl, rfl⟩ := e
    refine .inr ⟨b, off, rfl, Nat.lt_of_lt_of_le hb hg.size, fun j u hj => ?_⟩
    have := hc j u hj
    simp only [World.cell?] at this ⊢
    rw [hg.block b hb (Ne.symm hne)]
    exact this
theorem run_appR {P : Program} (w : World) (base : Nat) (t ty e : TypeId) (i : TypeInfo) (z : Value) (size bytes : Nat) (ht : P.underlying t = some (.slice e)) (hi : P.info? e = some i) (hz : i.zero = some z)
    (hsize : i.size = size) (hby : i.bytes = bytes) (hzs : z.cells.size = size) (hR : R.n = size) {v : Value} {n : Nat} {xs : List Value} (hown : w.ownsRow base e size v n xs) {vx : Value} {qs : List α} (hx : SlR R w vx qs)
    (b1 : n + qs.length ≤ maxLen) (b2 : (n + qs.length) * bytes ≤ 140737488355328) (hbase : base ≤ w.heap.size) :
    ∃ v' w', (Builtin.append_ #[t, t] ty #[v, vx]).run P w = .ok v' w' ∧ w'.ownsRow base e size v' (n + qs.length) (xs ++ R.flat qs) ∧ w.grownBy w' v.ownBlock ∧ (v' = .slice none 0 0 → v = .slice none 0 0) := by
  obtain ⟨a, cap, rfl, hl, hn, hs, hrow⟩ := hx
  have hpos := R.pos
  cases a with
  | none =>
    obtain rfl := hn rfl
    obtain rfl : qs = [] := List.eq_nil_of_length_eq_zero (by omega)
    refine ⟨v, w, run_append_owned_none (P := P) (w := w) base t ty e i size ht hi v n xs hown, by simpa [Rec.flat] using hown, World.grownBy.refl _ _, fun h => h⟩
  | some ad =>
    obtain ⟨b, off, sb⟩ := ad
    obtain rfl : sb = none := hs _ rfl
    have hc : ∀ j u, (R.flat qs)[j]? = some u → w.cell? (Addr.add ⟨b, off, none⟩ j) = some u := fun j u hj => by
      rcases hrow with h0 | ⟨b', off', h1, _, h3⟩
      · rw [h0] at hj; cases hj
      · cases h1; rw [add_plain]; exact h3 j u hj
    obtain ⟨v', w', h1, h2, h3, h4⟩ := run_append_own (P := P) w base t ty e i z size bytes ht hi hz hsize hby hzs (by omega) v n xs hown ⟨b, off, none⟩ qs.length cap (R.flat qs) (by rw [Rec.flat_len, hR]) hc (Rec.flat_one_cell qs) b1 b2 hbase
    exact ⟨v', w', h1, h2, h3, fun h => (h4.1 h).1⟩
/-- append to an own row of records, of whatever slice, as one step of a region that draws. -/
theorem step_appR {P : Program} {ops : Array Oper} {o : Oper} {a : Act} {w : World} {K : Act → World → Prop} {Q : Exit → Act → World → Prop} {E : Prop} (R : Rec α)
    (hg : o.guard = none) (s x : Operand) (t : TypeId) (hop : o.op = Op.call { callee := Callee.builtin Builtin.append, args := #[s, x], argTypes := #[t, t] })
    (base : Nat) (e : TypeId) (i : TypeInfo) (z : Value) (size bytes : Nat) (h1 : P.underlying t = some (.slice e)) (h2 : P.info? e = some i) (h3 : i.zero = some z) (h4 : i.size = size) (h5 : i.bytes = bytes) (h6 : z.cells.size = size) (hR : R.n = size)
    {v : Value} {n : Nat} {xs : List Value} (hs : a.eval s = v) (hown : w.ownsRow base e size v n xs) {vx : Value} {qs : List α} (hx : a.eval x = vx) (hsl : SlR R w vx qs)
    (b1 : n + qs.length ≤ maxLen) (b2 : (n + qs.length) * bytes ≤ 140737488355328) (hbase : base ≤ w.heap.size)
    (hK : ∀ v' w', w'.ownsRow base e size v' (n + qs.length) (xs ++ R.flat qs) → w.grownBy w' v.ownBlock → (v' = .slice none 0 0 → v = .slice none 0 0) → K (a.put o.dst v') w') :
    if Region.wanted o (yielded ops a.tmps) = true then Oper.wp P o a w K Q else E := by
  have hw : Region.wanted o (yielded ops a.tmps) = true := by simp [Region.wanted, hg]
  rw [if_pos hw]
  obtain ⟨v', w', hr, r2, r3, r4⟩ := run_appR (P := P) (R := R) w base t o.type e i z size bytes h1 h2 h3 h4 h5 h6 hR hown hsl b1 b2 hbase
  unfold Oper.wp execOp
  simp only [hop, resolve, invoke, builtin, Sem.run_bind, Sem.run_pure, Result.andThen_ok, List.map_toArray, List.map_cons, List.map_nil, hs, hx, hr]
  exact hK v' w' r2 r3 r4
end Go.Proofs.YtfkcopokeofjoaaGreat
/-
  WHAT IS TOLD OF A GRAPH's ROWS: one node's row, both ways, and the ends of an edge (csr.rows.of, row, Out, In, Degree, Ends, Nodes, Edges), by contract.
-/
namespace Go.Proofs.YtfkcopokeofjoaaGreat
open Go.ChangeShapes Go.WideShapes Go.ChangeAt Go.RowKit Go.Maps

/-- Whose arcs they are, in order. -/
def rowI (D : Nat → Nat) (l : List Nat) (N : Nat) (n : Int) : List Nat := if 0 ≤ n ∧ n < N then part D l n.toNat else []
theorem below_le_sorted (D : Nat → Nat) (l : List Nat) {b M : Nat} (h : b ≤ M) : below D l b ≤ (sorted D l M).length := below_mono D l h
theorem row_cut {α : Type} (D : Nat → Nat) (l : List Nat) (f : Nat → α) (b M : Nat) (h : b < M) : (((sorted D l M).map f).take (below D l (b + 1))).drop (below D l b) = (part D l b).map f := by
  have hm : below D l (b + 1) ≤ (sorted D l M).length := below_le_sorted D l h
  have hs := below_succ D l b
  apply List.ext_getElem?
  intro j
  rw [List.getElem?_drop, List.getElem?_take]
  by_cases hj : j < (part D l b).length
  · rw [if_pos (by omega), List.getElem?_map, sorted_at D l M b j h hj, List.getElem?_map]
  · rw [if_neg (by omega), List.getElem?_eq_none (by simp; omega)]
theorem row_cut_len (D : Nat → Nat) (l : List Nat) (b : Nat) : below D l (b + 1) - below D l b = (part D l b).length := by
  rw [below_succ]; omega
theorem nat_at {w : World} {a : Option Addr} {M : Nat} {f : Nat → Nat} (h : RowAt w a (cellsN M f)) {k : Nat} (hk : k < M) : ∃ b o, a = some ⟨b, o, none⟩ ∧ b < w.heap.size ∧ w.cell? ⟨b, o + k, none⟩ = some (.int .i64 (f k : Nat)) := by
  rcases h with h0 | ⟨b, o, rfl, hb, hc⟩
  · have := congrArg List.length h0
    rw [cellsN_len] at this
    simp at this; omega
  · exact ⟨b, o, rfl, hb, hc k _ (cellsN_at f hk)⟩
set_option maxHeartbeats 1600000 in
set_option maxRecDepth 100000 in
theorem of_c (D : Nat → Nat) (l : List Nat) (f : Nat → Ar) (N : Nat) (sa : Option Addr) (sc : Nat) (aa : Option Addr) (ak ac : Nat) (n : Int) (w : World) (hN : N ≤ 1000) (hst : RowAt w sa (cellsN (N + 1) (below D l))) (har : SlR arR w (.slice aa ak ac) ((sorted D l (N + 1)).map f)) (hl : (sorted D l (N + 1)).length ≤ 1000) :
    Calls Tryz.prog 63 #[.agg #[.slice sa (N + 1) sc, .slice aa ak ac], .int .i64 n] w fun e w' => ∃ a' n' c', e = .returned (.slice a' n' c') ∧ SlR arR w' (.slice a' n' c') ((rowI D l N n).map f) ∧ Below w.heap.size w w' := by
  have hB0 : Hid (Below w.heap.size w (w.alloc (.cells #[.slice sa (N + 1) sc, .slice aa ak ac] 71))) := (Below.refl _ _).alloc (Nat.le_refl _) _
  obtain ⟨⟨b0, b1⟩, -⟩ := box2f (heap_alloc_new w (.cells #[.slice sa (N + 1) sc, .slice aa ak ac] 71))
  by_cases hneg : n < 0
  · have hr : Hid (rowI D l N n = []) := hidden (if_neg (by omega))
    go_enter Tryz.func63, Tryz.ntmps63
    go_wp2
    go_ret
    refine ⟨none, 0, 0, rfl, ?_, hB0.out⟩
    rw [hr.out]
    exact ⟨none, 0, rfl, Nat.le_refl _, fun _ => rfl, fun _ e => (by cases e), .inl rfl⟩
  · by_cases hge : (N : Int) ≤ n
    · have hr : Hid (rowI D l N n = []) := hidden (if_neg (by omega))
      go_enter Tryz.func63, Tryz.ntmps63
      go_wp2
      go_ret
      refine ⟨none, 0, 0, rfl, ?_, hB0.out⟩
      rw [hr.out]
      exact ⟨none, 0, rfl, Nat.le_refl _, fun _ => rfl, fun _ e => (by cases e), .inl rfl⟩
    · obtain ⟨b, rfl⟩ := Int.eq_ofNat_of_zero_le (show 0 ≤ n by omega)
      have hbN : b < N := by omega
      have hr : Hid ((rowI D l N (b : Int)).map f = (part D l b).map f) := hidden (by unfold rowI; rw [if_pos (by omega)]; rfl)
      have hcut := hidden (row_cut D l f b (N + 1) (by omega))
      have hlo : below D l b ≤ below D l (b + 1) := below_mono D l (Nat.le_succ b)
      have hhi : below D l (b + 1) ≤ (sorted D l (N + 1)).length := below_le_sorted D l (by omega)
      obtain ⟨g1, o1, rfl, hb1, c0⟩ := nat_at hst (k := b) (by omega)
      obtain ⟨g2, o2, h2, hb2, c1⟩ := nat_at hst (k := b + 1) (by omega)
      cases h2
      have hAB := (Below.refl w.heap.size w).alloc (Nat.le_refl _) (.cells #[.slice (some ⟨g1, o1, none⟩) (N + 1) sc, .slice aa ak ac] 71)
      have d0 := (hAB.cell (p := ⟨g1, o1 + b, none⟩) hb1).trans c0
      have d1 := (hAB.cell (p := ⟨g1, o1 + (b + 1), none⟩) hb1).trans c1
      have d2 := d1
      rw [← Nat.add_assoc] at d2
      have hbi : (b : Int) < (N : Int) + 1 := by omega
      have hbi2 : (b : Int) + 1 < (N : Int) + 1 := by omega
      have hsl := har.calm (.of_below hAB)
      obtain ⟨a', c', he, hk1, hk2, hk3, hk4⟩ := id har
      simp only [Value.slice.injEq, List.length_map] at he
      obtain ⟨rfl, rfl, rfl⟩ := he
      rw [List.length_map] at hk1
      replace hk3 := hidden hk3
      replace hk4 := hidden hk4
      replace hsl := hidden hsl
      have c2 := c1
      rw [← Nat.add_assoc] at c2
      clear hst har hAB
      generalize below D l b = lo at *
      generalize below D l (b + 1) = hi at *
      replace hneg : (0 : Int) ≤ b := by omega
      have hb9 : b < 1000 := by omega
      have hi9 : hi ≤ 1000 := by omega
      have hfin : Hid (SlR arR (w.alloc (.cells #[.slice (some ⟨g1, o1, none⟩) (N + 1) sc, .slice aa (sorted D l (N + 1)).length ac] 71)) (.slice (if ac = lo then aa else aa.map (·.add (lo * 4))) (hi - lo) (ac - lo)) ((rowI D l N (b : Int)).map f)) := by
        rw [hr.out, ← hcut.out]
        have hlen : (((sorted D l (N + 1)).map f).take hi).length = hi := by rw [List.length_take, List.length_map]; omega
        obtain ⟨a', c', he, q1, q2, q3, q4⟩ := hsl.out
        simp only [Value.slice.injEq] at he
        obtain ⟨rfl, _, rfl⟩ := he
        have hrow := (q4.toR hi (by rw [List.length_map]; omega)).fromR lo (by rw [hlen]; omega)
        refine ⟨_, _, by rw [List.length_drop, hlen], by rw [List.length_drop, hlen]; omega, fun e => ?_, fun x e => ?_, ?_⟩
        · split at e
          · omega
          · have := q2 (by simpa using e); omega
        · split at e
          · exact q3 x e
          · obtain ⟨y, hy, rfl⟩ := Option.map_eq_some_iff.1 e
            have := q3 y hy
            obtain ⟨b', off, sb⟩ := y
            simp only at this
            subst this
            rw [add_plain]
        · split
          · rename_i hc
            have h0 : (((sorted D l (N + 1)).map f).take hi).drop lo = [] := List.drop_eq_nil_of_le (by rw [hlen]; omega)
            rw [h0]
            exact .inl rfl
          · exact hrow
      clear hr hcut hsl
      generalize (rowI D l N (b : Int)).map f = R at *
      by_cases hcl : ac = lo
      · subst hcl
        simp only [if_true, Nat.sub_self] at hfin
        go_enter Tryz.func63, Tryz.ntmps63
        go_wp2
        go_region
        go_wp2
        go_ret
        exact ⟨_, _, _, rfl, hfin.out, hB0.out.drew⟩
      · rw [if_neg hcl] at hfin
        go_enter Tryz.func63, Tryz.ntmps63
        go_wp2
        go_region
        go_wp2
        go_ret
        exact ⟨_, _, _, rfl, hfin.out, hB0.out.drew⟩
set_option maxHeartbeats 3200000 in
set_option maxRecDepth 100000 in
theorem aclone_c (a : Option Addr) (c : Nat) (ps : List Ar) (w : World) (hv : RowAt w a (arR.flat ps)) (hx : ps.length ≤ 1000) (hc : a = none → c = 0) :
    Calls Tryz.prog 46 #[.slice a ps.length c] w fun e w' => ∃ a' c', e = .returned (.slice a' ps.length c') ∧ w'.ownsRow w.heap.size 78 4 (.slice a' ps.length c') ps.length (arR.flat ps) ∧ Below w.heap.size w w' := by
  obtain ⟨i0, hi, hz0, hz1, hz2⟩ := info_parts infoA
  match a, hv, hc with
  | none, hv, hc =>
    obtain rfl := hc rfl
    obtain rfl : ps = [] := by
      rcases hv with h0 | ⟨b, off, h, _⟩
      · have := congrArg List.length h0
        rw [Rec.flat_len] at this
        have : ps.length * 4 = 0 := this
        exact List.eq_nil_of_length_eq_zero (by omega)
      · cases h
    have hB : Hid (Below w.heap.size w w) := Below.refl _ _
    have hne : ∀ x : World, Sem.run Tryz.prog (binOp BinOp.eql 69 (.slice none 0 0) (.slice none 0 0)) x = .ok (.bool true) x := fun x => by rfl
    simp only [List.length_nil]
    go_enter Tryz.func46, Tryz.ntmps46
    go_wp2
    go_ret
    exact ⟨_, _, rfl, ⟨rfl, .inl ⟨rfl, rfl⟩⟩, hB.out⟩
  | some ad, hv, _ =>
    have hnews : ∀ j u, (arR.flat ps)[j]? = some u → w.cell? (ad.add j) = some u := by
      intro j u hj
      rcases hv with h0 | ⟨b, off, h, _, h3⟩
      · rw [h0] at hj; cases hj
      · cases h
        rw [add_plain]; exact h3 j u hj
    have hbl : ∀ j u, (arR.flat ps)[j]? = some u → (w.alloc (.cells #[] 78)).cell? (ad.add j) = some u := fun j u hj => by
      have h := hnews j u hj
      rcases hv with h0 | ⟨b, off, h', hb, h3⟩
      · rw [h0] at hj; cases hj
      · cases h'
        exact (((Below.refl w.heap.size w).alloc (Nat.le_refl _) _).cell (p := (⟨b, off, none⟩ : Addr).add j) (by rw [add_plain]; exact hb)).trans h
    have hne : ∀ x : World, Sem.run Tryz.prog (binOp BinOp.eql 69 (.slice (some ad) ps.length c) (.slice none 0 0)) x = .ok (.bool false) x := fun x => by rfl
    replace hnews := hidden hnews
    replace hv := hidden hv
    replace hbl := hidden hbl
    go_enter Tryz.func46, Tryz.ntmps46
    go_wp2_with (at_builtin; go_loud (refine wpList_append_own _ rfl _ _ 69 rfl w.heap.size 78 i0 (.agg #[.int .i64 0, .int .i64 0, .int .i64 0, .int .i64 0]) 4 32 Tryz.underlying69 hi hz0 hz1 hz2 rfl (by decide) _ _ _ rfl (World.ownsRow_made w #[] 0 (Nat.le_refl _) (by unfold maxLen; omega) rfl) ad ps.length c (arR.flat ps) rfl (Rec.flat_len ps) hbl.out (Rec.flat_one_cell ps) (by unfold maxLen; omega) (by omega) (by simp) ?_); intro v' w1 hown' hgrow _)
    have hB3 : Hid (Below w.heap.size w w1) := ((Below.refl _ _).alloc (Nat.le_refl _) _).grown hgrow (by simp) (fun j hj => by cases hj; exact Nat.le_refl _)
    simp only [Nat.zero_add, List.nil_append] at hown'
    obtain ⟨a1, c1, rfl⟩ := own_shape hown'
    have hr1 := hidden hown'
    clear hgrow hown'
    go_wp2
    go_ret
    exact ⟨_, _, rfl, hr1.out, hB3.out⟩
def CsX.l (C : CsX) : Bool → List Nat
  | true => C.l2
  | false => C.l1
/-- A node's arcs. -/
def rowA (g : Gr) (C : CsX) (back : Bool) (n : Int) : List Ar := (rowI (whoOf g.es back) (C.l back) g.ns.length n).map fun p => (arcsL C.L g.es back).getD p Ar.none
theorem sorted_len (D : Nat → Nat) {l : List Nat} {n M : Nat} (hl : l.Perm (List.range n)) (hD : ∀ p, D p < M) : (sorted D l M).length = n := by
  have h := below_allM hD l
  rw [hl.length_eq, List.length_range] at h
  exact h
theorem part_len_le (D : Nat → Nat) (l : List Nat) (b : Nat) : (part D l b).length ≤ l.length := by unfold part; exact List.length_filter_le _ _
theorem rowA_len (g : Gr) (C : CsX) (back : Bool) (n : Int) : (rowA g C back n).length ≤ (C.l back).length := by
  unfold rowA rowI
  split
  · rw [List.length_map]; exact part_len_le _ _ _
  · simp
set_option maxHeartbeats 1600000 in
set_option maxRecDepth 100000 in
theorem row_c (g : Gr) (C : CsX) (B : Nat) (back : Bool) (n : Int) (w : World) (hC : CsrAt g C B w) (hok : (checkG g).2 = 0) (hn : g.ns.length ≤ 1000) (he : g.es.length ≤ 1000) :
    Calls Tryz.prog 44 #[.pointer (some ⟨C.b, 0, none⟩), .int .i64 n, .bool back] w fun e w' => ∃ a' n' c', e = .returned (.slice a' n' c') ∧ SlR arR w' (.slice a' n' c') (rowA g C back n) ∧ Below w.heap.size w w' := by
  have hge := good_edges hok
  have hD : ∀ bk p, whoOf g.es bk p < g.ns.length + 1 := fun bk p => by
    by_cases hp : p < g.es.length
    · obtain ⟨v1, v2, v3, v4, v5, v6⟩ := hge _ (getD_memG (d := Eg.none) hp)
      cases bk
      · show fromOf g.es p < _; unfold fromOf; omega
      · show toOf g.es p < _; unfold toOf; omega
    · cases bk
      · show fromOf g.es p < _; unfold fromOf; rw [getD_out (by omega)]; exact Nat.succ_pos _
      · show toOf g.es p < _; unfold toOf; rw [getD_out (by omega)]; exact Nat.succ_pos _
  obtain ⟨b, lc, gl, ge, s1, a1, s2, a2, L, l1, l2⟩ := C
  have hp1 := hC.o1.perm
  have hp2 := hC.o2.perm
  have hl1 := sorted_len (whoOf g.es false) hp1 (hD false)
  have hl2 := sorted_len (whoOf g.es true) hp2 (hD true)
  obtain ⟨hbox, -, -, -, -, -, -, -, st1, st2, ar1, ar2⟩ := hC
  simp only at hbox hp1 hp2 hl1 hl2 st1 st2 ar1 ar2
  obtain ⟨sa, sc, rfl⟩ := own_shape st1
  obtain ⟨aa, ac, rfl⟩ := own_shape ar1
  obtain ⟨sb, sd, rfl⟩ := own_shape st2
  obtain ⟨ab, ad, rfl⟩ := own_shape ar2
  have hf1 := of_c (whoOf g.es false) l1 (fun p => (arcsL L g.es false).getD p Ar.none) g.ns.length sa sc aa g.es.length ac n w hn (by
    obtain ⟨a', c', h1, h2⟩ := holds_of_owns st1
    simp only [Value.slice.injEq] at h1
    obtain ⟨rfl, _, _⟩ := h1
    rw [show cellsN (g.ns.length + 1) (Go.Proofs.YtfkcopokeofjoaaGreat.below (whoOf g.es false) l1) = cellsN (g.ns.length + 1) (Go.Proofs.YtfkcopokeofjoaaGreat.below (whoOf g.es false) (List.range g.es.length)) from congrArg _ (funext fun i => below_perm hp1 i)]
    exact h2) (slR_of_owns (by rw [List.length_map, hl1]; exact ar1)) (by rw [hl1]; exact he)
  have hf2 := of_c (whoOf g.es true) l2 (fun p => (arcsL L g.es true).getD p Ar.none) g.ns.length sb sd ab g.es.length ad n w hn (by
    obtain ⟨a', c', h1, h2⟩ := holds_of_owns st2
    simp only [Value.slice.injEq] at h1
    obtain ⟨rfl, _, _⟩ := h1
    rw [show cellsN (g.ns.length + 1) (Go.Proofs.YtfkcopokeofjoaaGreat.below (whoOf g.es true) l2) = cellsN (g.ns.length + 1) (Go.Proofs.YtfkcopokeofjoaaGreat.below (whoOf g.es true) (List.range g.es.length)) from congrArg _ (funext fun i => below_perm hp2 i)]
    exact h2) (slR_of_owns (by rw [List.length_map, hl2]; exact ar2)) (by rw [hl2]; exact he)
  obtain ⟨⟨-, -, -, c3, c4, c5, c6⟩, -⟩ := box7c hbox
  have e1 : Hid (rowA g ⟨b, lc, gl, ge, .slice sa (g.ns.length + 1) sc, .slice aa g.es.length ac, .slice sb (g.ns.length + 1) sd, .slice ab g.es.length ad, L, l1, l2⟩ false n = (rowI (whoOf g.es false) l1 g.ns.length n).map fun p => (arcsL L g.es false).getD p Ar.none) := hidden rfl
  have e2 : Hid (rowA g ⟨b, lc, gl, ge, .slice sa (g.ns.length + 1) sc, .slice aa g.es.length ac, .slice sb (g.ns.length + 1) sd, .slice ab g.es.length ad, L, l1, l2⟩ true n = (rowI (whoOf g.es true) l2 g.ns.length n).map fun p => (arcsL L g.es true).getD p Ar.none) := hidden rfl
  clear hge hD hp1 hp2 hl1 hl2 hbox st1 st2 ar1 ar2
  simp only
  cases back
  · rw [e1.out]
    clear hf2 c5 c6 e1 e2
    generalize (rowI (whoOf g.es false) l1 g.ns.length n).map _ = R at *
    go_enter Tryz.func44, Tryz.ntmps44
    go_wp2_with fail
    refine hf1.mono ?_
    rintro e w1 ⟨a', n', c', rfl, hS, hB⟩
    replace hS := hidden hS
    replace hB := hidden hB
    go_wp2
    go_ret
    exact ⟨_, _, _, rfl, hS.out, hB.out⟩
  · rw [e2.out]
    clear hf1 c3 c4 e1 e2
    generalize (rowI (whoOf g.es true) l2 g.ns.length n).map _ = R at *
    go_enter Tryz.func44, Tryz.ntmps44
    go_wp2_with fail
    refine hf2.mono ?_
    rintro e w1 ⟨a', n', c', rfl, hS, hB⟩
    replace hS := hidden hS
    replace hB := hidden hB
    go_wp2
    go_ret
    exact ⟨_, _, _, rfl, hS.out, hB.out⟩
set_option maxHeartbeats 1600000 in
set_option maxRecDepth 100000 in
theorem ends_c (g : Gr) (C : CsX) (B : Nat) (n : Int) (w : World) (hC : CsrAt g C B w) (he : g.es.length ≤ 1000) :
    Calls Tryz.prog 29 #[.pointer (some ⟨C.b, 0, none⟩), .int .i64 n] w fun e w' => e = .returned (if 0 ≤ n ∧ n < g.es.length then .tuple #[.int .i64 (fromOf g.es n.toNat : Nat), .int .i64 (toOf g.es n.toNat : Nat), .bool true] else .tuple #[.int .i64 0, .int .i64 0, .bool false]) ∧ Below w.heap.size w w' := by
  obtain ⟨⟨-, -, c2, -⟩, -⟩ := box7c hC.box
  have hB0 := hidden (Below.refl w.heap.size w)
  by_cases hneg : n < 0
  · rw [if_neg (by omega)]
    clear hC c2
    go_enter Tryz.func29, Tryz.ntmps29
    go_wp2
    go_ret3
    exact ⟨rfl, hB0.out⟩
  · by_cases hge : (g.es.length : Int) ≤ n
    · rw [if_neg (by omega)]
      clear hC
      go_enter Tryz.func29, Tryz.ntmps29
      go_wp2
      go_ret3
      exact ⟨rfl, hB0.out⟩
    · obtain ⟨b, rfl⟩ := Int.eq_ofNat_of_zero_le (show 0 ≤ n by omega)
      have hbE : b < g.es.length := by omega
      rw [if_pos (by omega)]
      have hcell : ∀ r u, (endR.enc (endOf g.es b))[r]? = some u → w.cell? ⟨C.ge, b * 2 + r, none⟩ = some u := fun r u hu => by
        have hr : r < 2 := by have := (List.getElem?_eq_some_iff.1 hu).1; rw [endR.len] at this; exact this
        rw [hC.ends.cellAt _ (by omega)]
        have h1 := Rec.flat_at (R := endR) ((List.range g.es.length).map (endOf g.es)) b r (by simpa using hbE) hr
        refine (show _ = _ from h1).trans ?_
        rw [show ((List.range g.es.length).map (endOf g.es)).getD b endR.dflt = endOf g.es b by simp [List.getD, hbE]]
        exact hu
      have e0 := hcell 0 _ rfl
      have e1 := hcell 1 _ rfl
      rw [Nat.add_zero] at e0
      simp only [endOf] at e0 e1
      have hbi : (b : Int) < (g.es.length : Int) := by omega
      have hb9 : b < 1000 := by omega
      have hbN : Hid ((b : Int).toNat = b) := hidden rfl
      show Calls _ _ _ _ fun e w' => e = .returned (.tuple #[.int .i64 (fromOf g.es b : Nat), .int .i64 (toOf g.es b : Nat), .bool true]) ∧ Below w.heap.size w w'
      unfold fromOf toOf
      generalize (g.es.getD b Eg.none).f.toNat = x at *
      generalize (g.es.getD b Eg.none).t.toNat = y at *
      clear hC hcell hbN
      go_enter Tryz.func29, Tryz.ntmps29
      go_wp2
      go_region
      go_wp2
      go_ret3
      exact ⟨rfl, hB0.out.drew⟩
end Go.Proofs.YtfkcopokeofjoaaGreat
/-
  THE REFERENCE's ROWS: a text's place, which arc stands first, and the mathematics of a row that is kept in order.
-/
namespace Go.Proofs.YtfkcopokeofjoaaGreat
open Go.ChangeShapes Go.WideShapes Go.ChangeAt Go.RowKit

theorem placeL_first : ∀ {L : List ByteArray} {s : ByteArray} {k : Nat}, (∀ j, j < k → ∀ x, L[j]? = some x → x ≠ s) → L[k]? = some s → placeL L s = k
  | [], s, k, _, h => by simp at h
  | x :: r, s, 0, _, h => by
    simp only [List.getElem?_cons_zero, Option.some.injEq] at h
    subst h
    unfold placeL
    rw [if_pos rfl]
  | x :: r, s, k + 1, hn, h => by
    have h0 := hn 0 (by omega) x rfl
    unfold placeL
    rw [if_neg (fun e => h0 (txt_inj e)), placeL_first (k := k) (fun j hj y hy => hn (j + 1) (by omega) y (by simpa using hy)) (by simpa using h)]
open Classical in
noncomputable def placeI (L : List ByteArray) (s : ByteArray) : Int := if s ∈ L then (placeL L s : Nat) else -1
theorem txt_at' {w : World} {a : Option Addr} {L : List ByteArray} (h : RowAt w a (tx L)) {k : Nat} (hk : k < L.length) : ∃ b off, a = some ⟨b, off, none⟩ ∧ b < w.heap.size ∧ w.cell? ⟨b, off + k, none⟩ = some (.string (L.getD k ⟨#[]⟩)) := by
  rcases h with h0 | ⟨b, off, rfl, hb, hc⟩
  · have h1 : (tx L).length = 0 := by rw [h0]; rfl
    rw [tx_len] at h1
    omega
  · exact ⟨b, off, rfl, hb, hc k _ (tx_at L ⟨#[]⟩ k hk)⟩
theorem heap_new2' (w : World) (o1 o2 : Obj) : ((w.alloc o1).alloc o2).heap[w.heap.size + 1]? = some o2 := by
  have h := heap_alloc_new (w.alloc o1) o2
  have h8 : (w.alloc o1).heap.size = w.heap.size + 1 := by show (w.heap.push _).size = _; simp
  rw [h8] at h
  exact h
/-- Which arc stands first. -/
def LtA (p q : Ar) : Prop := p.lb < q.lb ∨ (p.lb = q.lb ∧ (p.to < q.to ∨ (p.to = q.to ∧ (p.wt < q.wt ∨ (p.wt = q.wt ∧ p.ed < q.ed)))))
open Classical in
noncomputable def ltA (p q : Ar) : Bool := decide (LtA p q)
theorem ltA_iff {p q : Ar} : ltA p q = true ↔ LtA p q := by simp [ltA]
/-- The keys of a graph's arcs say the same. -/
theorem key_lt {L : List ByteArray} {es : List Eg} {back : Bool} {i j : Nat} (hi : i < es.length) (hj : j < es.length) (oi : (arcOf L es back i).ok) (oj : (arcOf L es back j).ok) :
    KeyLt (keyOf (keysA (arcsL L es back))) i j ↔ LtA (arcOf L es back i) (arcOf L es back j) := by
  have key : ∀ k, k < es.length → keyOf (keysA (arcsL L es back)) k = (arcOf L es back k).key := fun k hk => by
    unfold keyOf keysA
    have : ((arcsL L es back).map fun p => ((p.key : Nat) : Int)).getD k 0 = (((arcOf L es back k).key : Nat) : Int) := by
      simp [List.getD, arcsL, hk]
    rw [this]; simp
  unfold KeyLt LtA
  rw [key i hi, key j hj]
  obtain ⟨a1, a2, a3⟩ := oi
  obtain ⟨b1, b2, b3⟩ := oj
  have e1 : (arcOf L es back i).ed = i := rfl
  have e2 : (arcOf L es back j).ed = j := rfl
  rw [e1, e2]
  unfold Ar.key
  generalize (arcOf L es back i).lb = x1 at *
  generalize (arcOf L es back i).to = x2 at *
  generalize (arcOf L es back i).wt = x3 at *
  generalize (arcOf L es back j).lb = z1 at *
  generalize (arcOf L es back j).to = z2 at *
  generalize (arcOf L es back j).wt = z3 at *
  omega
/-- A row in order, of those of the first k edges that are a node's. -/
structure RowQ (K : Nat → Nat) (D : Nat → Nat) (n : Int) (k : Nat) (Q : List Nat) : Prop where
  ord : Q.Pairwise (KeyLt K)
  mem : ∀ p, p ∈ Q ↔ p < k ∧ (D p : Int) = n
theorem KeyLt.trans {K : Nat → Nat} {p q r : Nat} (h1 : KeyLt K p q) (h2 : KeyLt K q r) : KeyLt K p r := by unfold KeyLt at *; omega
theorem KeyLt.tri {K : Nat → Nat} {p q : Nat} (h : ¬ KeyLt K p q) (hne : p ≠ q) : KeyLt K q p := by unfold KeyLt at *; omega
theorem RowQ.zero (K D : Nat → Nat) (n : Int) : RowQ K D n 0 [] := ⟨List.Pairwise.nil, fun p => ⟨fun h => (by cases h), fun h => (by omega)⟩⟩
theorem RowQ.skip {K D : Nat → Nat} {n : Int} {k : Nat} {Q : List Nat} (h : RowQ K D n k Q) (hn : (D k : Int) ≠ n) : RowQ K D n (k + 1) Q :=
  ⟨h.ord, fun p => (h.mem p).trans ⟨fun h => ⟨by omega, h.2⟩, fun h1 => by
    rcases Nat.lt_or_ge p k with h2 | h2
    · exact ⟨h2, h1.2⟩
    · obtain rfl : p = k := by omega
      exact absurd h1.2 hn⟩⟩
/-- One more is put where it belongs. -/
theorem RowQ.put {K D : Nat → Nat} {n : Int} {k : Nat} {Q : List Nat} (h : RowQ K D n k Q) (hn : (D k : Int) = n) {t : Nat} (ht : t ≤ Q.length) (hup : ∀ j, t ≤ j → j < Q.length → KeyLt K k (Q.getD j 0)) (hlow : 0 < t → ¬ KeyLt K k (Q.getD (t - 1) 0)) :
    RowQ K D n (k + 1) (Q.take t ++ k :: Q.drop t) := by
  have hg : ∀ j (hj : j < Q.length), Q.getD j 0 = Q[j] := fun j hj => by simp [List.getD, hj]
  have hnk : ∀ p ∈ Q, p ≠ k := fun p hp e => by have := ((h.mem p).1 hp).1; omega
  have hup2 : ∀ p ∈ Q.drop t, KeyLt K k p := fun p hp => by
    obtain ⟨j, hj, rfl⟩ := List.mem_iff_getElem.1 hp
    rw [List.length_drop] at hj
    rw [List.getElem_drop]
    have := hup (t + j) (by omega) (by omega)
    rwa [hg _ (by omega)] at this
  have hlow2 : ∀ p ∈ Q.take t, KeyLt K p k := fun p hp => by
    obtain ⟨j, hj, rfl⟩ := List.mem_iff_getElem.1 hp
    rw [List.length_take] at hj
    rw [List.getElem_take]
    have h1 := hlow (by omega)
    rw [hg _ (by omega)] at h1
    have h2 := KeyLt.tri h1 (fun e => hnk _ (List.getElem_mem (show t - 1 < Q.length by omega)) e.symm)
    rcases Nat.lt_or_ge j (t - 1) with h3 | h3
    · exact (List.pairwise_iff_getElem.1 h.ord j (t - 1) (by omega) (by omega) h3).trans h2
    · obtain rfl : j = t - 1 := by omega
      exact h2
  have hp : Q.Pairwise (KeyLt K) := h.ord
  rw [← List.take_append_drop t Q, List.pairwise_append] at hp
  refine ⟨?_, fun p => ?_⟩
  · rw [List.pairwise_append, List.pairwise_cons]
    refine ⟨hp.1, ⟨hup2, hp.2.1⟩, fun x hx y hy => ?_⟩
    rcases List.mem_cons.1 hy with rfl | hy
    · exact hlow2 x hx
    · exact hp.2.2 x hx y hy
  · have : p ∈ Q.take t ++ k :: Q.drop t ↔ p ∈ Q ∨ p = k := by
      conv => rhs; rw [← List.take_append_drop t Q]
      simp only [List.mem_append, List.mem_cons]
      constructor
      · rintro (h | rfl | h)
        · exact .inl (.inl h)
        · exact .inr rfl
        · exact .inl (.inr h)
      · rintro ((h | h) | rfl)
        · exact .inl h
        · exact .inr (.inr h)
        · exact .inr (.inl rfl)
    rw [this, h.mem]
    constructor
    · rintro (h | rfl)
      · exact ⟨by omega, h.2⟩
      · exact ⟨by omega, hn⟩
    · rintro ⟨h1, h2⟩
      rcases Nat.lt_or_ge p k with h3 | h3
      · exact .inl ⟨h3, h2⟩
      · exact .inr (by omega)
/-- The program's row is the same. -/
theorem RowQ.is {K D : Nat → Nat} {n : Int} {m N : Nat} {Q l : List Nat} (h : RowQ K D n m Q) (ho : Ordered K m l) (hD : ∀ p, p < m → D p < N) : Q = rowI D l N n := by
  refine ordered_ext Q _ h.ord ?_ fun p => ?_
  · unfold rowI
    split
    · exact ho.1.sublist List.filter_sublist
    · exact List.Pairwise.nil
  · rw [h.mem]
    unfold rowI
    split
    · rename_i hn
      rw [mem_part, ho.2]
      constructor
      · rintro ⟨h1, h2⟩; exact ⟨h1, by omega⟩
      · rintro ⟨h1, h2⟩; exact ⟨h1, by omega⟩
    · rename_i hn
      constructor
      · rintro ⟨h1, h2⟩
        have := hD p h1
        exact absurd ⟨by omega, by omega⟩ hn
      · intro h; cases h
end Go.Proofs.YtfkcopokeofjoaaGreat
/-
  A REGION THAT DRAWS ITS ORDER, WHOSE OPERATIONS READ AND WHOSE CALLEES MAKE MEMORY BUT WRITE NONE THAT WAS THERE: one walk. No function is named here.
-/
namespace Go.Proofs.YtfkcopokeofjoaaGreat
open Go.ChangeShapes Go.WideShapes Go.ChangeAt Go.RowKit

/-- A world of the class. -/
structure In (C : World → Prop) where
  w : World
  h : C w
theorem wp_region_later {P : Program} {id : Nat} {Q : Exit → Act → World → Prop} {a : Act} {w : World} {l : List Oper} (C : World → Prop) (hm : P.follows .mixedOrders = true) (hB : Region.lexB .any l.toArray = true) (hC : C w.drew)
    (h : ∀ _ : Nonempty (In C), wpQuiet P l.toArray (fun w' => ∃ x : In C, w' = x.w) (fun a' => ∀ w', C w' → Q .normal a' w') l a) : (Code.region id l.toArray true).wp P Q a w := by
  refine wp_region_quiet (C := C) hm hB hC ?_
  have h := h ⟨⟨_, hC⟩⟩
  have e : (fun w' => ∃ x : In C, w' = x.w) = C := by
    funext w'
    exact propext ⟨fun ⟨x, hx⟩ => hx ▸ x.h, fun h => ⟨⟨w', h⟩, rfl⟩⟩
  rw [e] at h
  simpa using h
theorem later_of {P : Program} {C : World → Prop} {f : FuncId} {args : Array Value} {v : Value} {x : In C} (h : Calls P f args x.w fun e w' => e = .returned v ∧ C w') :
    Calls P f args x.w fun e w'' => e = .returned v ∧ ∃ y : In C, w'' = y.w :=
  h.mono fun _ w' ⟨he, hw⟩ => ⟨he, ⟨w', hw⟩, rfl⟩

/-- All that lay in w lies as it lay, and these cells hold these values. -/
def Keeps (w : World) (F : List (Addr × Value)) (x : World) : Prop := Below w.heap.size w x ∧ ∀ p ∈ F, x.cell? p.1 = some p.2
theorem Keeps.below {w x y : World} {F : List (Addr × Value)} (h : Keeps w F x) (hb : Below x.heap.size x y) : Keeps w F y :=
  ⟨h.1.trans (hb.mono h.1.size), fun p hp => (hb.cell (World.block_lt_of_cell? x p.1 (h.2 p hp))).trans (h.2 p hp)⟩
theorem Keeps.drew {w x : World} {F : List (Addr × Value)} (h : Keeps w F x) : Keeps w F x.drew := ⟨h.1.drew, fun p hp => h.2 p hp⟩
theorem Keeps.at {w : World} {F : List (Addr × Value)} (j : Nat) {p : Addr × Value} (hj : F[j]? = some p) (x : In (Keeps w F)) : x.w.cell? p.1 = some p.2 :=
  x.h.2 p (List.mem_of_getElem? hj)
/-- A callee by its contract, in a world of the class. -/
theorem Keeps.calls {P : Program} {w : World} {F : List (Addr × Value)} {f : FuncId} {args : Array Value} {v : Value} (h : ∀ w, Calls P f args w fun e w' => e = .returned v ∧ Below w.heap.size w w') (x : In (Keeps w F)) :
    Calls P f args x.w fun e w'' => e = .returned v ∧ ∃ y : In (Keeps w F), w'' = y.w :=
  later_of ((h x.w).mono fun _ _ ⟨he, hb⟩ => ⟨he, x.h.below hb⟩)
end Go.Proofs.YtfkcopokeofjoaaGreat
/-
  A LABEL'S PLACE, AND WHERE A LABEL'S ARCS BEGIN (the library's searches at texts and at arcs; csr.Label, firstOf), by contract.
-/
namespace Go.Proofs.YtfkcopokeofjoaaGreat
open Go.ChangeShapes Go.WideShapes Go.ChangeAt Go.RowKit Go.Maps

theorem nant_c (s : ByteArray) (w : World) : Calls Tryz.prog 112 #[.string s] w fun e w' => e = .returned (.bool false) ∧ w' = w := by
  go_enter Tryz.func112, Tryz.ntmps112
  go_wp2
  go_ret
  exact ⟨rfl, rfl⟩
theorem nans_c (s : ByteArray) (w : World) : Calls Tryz.prog 93 #[.string s] w fun e w' => e = .returned (.bool false) ∧ w' = w := by
  go_enter Tryz.func93, Tryz.ntmps93
  go_wp2
  go_ret
  exact ⟨rfl, rfl⟩
theorem lesst_c (a b : ByteArray) (w : World) : Calls Tryz.prog 92 #[.string a, .string b] w fun e w' => e = .returned (.bool (Op.bytesLess a.toList b.toList)) ∧ w' = w := by
  have h := fun a w => nant_c a w
  go_enter Tryz.func92, Tryz.ntmps92
  go_wp2_with fail
  refine (h a w).mono ?_
  rintro e w ⟨rfl, rfl⟩
  go_wp2
  go_ret
  exact ⟨rfl, rfl⟩
/-- A search's answer. -/
structure BsA where
  F : Nat
  b : Bool
/-- What the search of a text answers. -/
structure BsT (L : List ByteArray) (s : ByteArray) (F : Nat) (b : Bool) : Prop where
  yes : b = true → L[F]? = some s
  no : b = false → s ∉ L
theorem strict_lt {L : List ByteArray} (h : StrictT L) {i j : Nat} (hij : i < j) (hj : j < L.length) : Op.bytesLess (L.getD i ⟨#[]⟩).toList (L.getD j ⟨#[]⟩).toList = true := by
  have h1 := List.pairwise_iff_getElem.1 h i j (by omega) hj hij
  rw [show L.getD i ⟨#[]⟩ = L[i] by simp [List.getD, show i < L.length by omega], show L.getD j ⟨#[]⟩ = L[j] by simp [List.getD, hj]]
  exact h1
theorem bst_no {L : List ByteArray} {s : ByteArray} (hs : StrictT L) {F : Nat} (h1 : ∀ t, t < F → Op.bytesLess (L.getD t ⟨#[]⟩).toList s.toList = true) (h2 : ∀ t, F ≤ t → t < L.length → Op.bytesLess (L.getD t ⟨#[]⟩).toList s.toList = false) (h3 : F < L.length → L.getD F ⟨#[]⟩ ≠ s) : s ∉ L := fun hm => by
  obtain ⟨t, ht, he⟩ := List.getElem_of_mem hm
  have hg : L.getD t ⟨#[]⟩ = s := by simp [List.getD, ht, he]
  rcases Nat.lt_or_ge t F with h | h
  · have := h1 t h
    rw [hg, lt_b_irrefl] at this
    cases this
  · rcases Nat.lt_or_ge F t with h4 | h4
    · have h5 := strict_lt hs h4 ht
      rw [hg] at h5
      rw [h2 F (Nat.le_refl _) (by omega)] at h5
      cases h5
    · obtain rfl : t = F := by omega
      exact h3 ht hg
set_option maxHeartbeats 3200000 in
set_option maxRecDepth 100000 in
theorem bst_c (L : List ByteArray) (s : ByteArray) (a : Option Addr) (c : Nat) (w : World) (h : RowAt w a (tx L)) (hl : L.length ≤ 1000) (hs : StrictT L) :
    Calls Tryz.prog 62 #[.slice a L.length c, .string s] w fun e w' => ∃ q : BsA, e = .returned (.tuple #[.int .i64 (q.F : Nat), .bool q.b]) ∧ BsT L s q.F q.b ∧ w' = w := by
  obtain ⟨N, hN⟩ : ∃ N, N = L.length := ⟨_, rfl⟩
  rw [← hN] at hl ⊢
  replace hN := hidden hN
  replace h := hidden h
  replace hs := hidden hs
  have hless := hidden fun a w => lesst_c a s w
  have hnan := hidden fun a w => nans_c a w
  go_enter Tryz.func62, Tryz.ntmps62
  go_wp2
  go_loop [7, 8] (fun u v => ∃ lo hi : Nat, u = .int .i64 lo ∧ v = .int .i64 hi ∧ lo ≤ hi ∧ hi ≤ N ∧ Hid (∀ t, t < lo → Op.bytesLess (L.getD t ⟨#[]⟩).toList s.toList = true) ∧ Hid (∀ t, hi ≤ t → t < L.length → Op.bytesLess (L.getD t ⟨#[]⟩).toList s.toList = false))
    (fun i j => (intOf j).toNat - (intOf i).toNat)
  case atStart => exact ⟨0, N, rfl, rfl, Nat.zero_le _, Nat.le_refl _, fun t ht => by omega, fun t h1 h2 => by have := hN.out; omega⟩
  case round =>
    obtain ⟨lo, hi, rfl, rfl, hlh, hhi, h1, h2⟩ := hrel
    by_cases hlt : lo < hi
    · obtain ⟨b, off, rfl, hb, c0⟩ := txt_at' h.out (k := (lo + hi) / 2) (by have := hN.out; omega)
      have hlo := hidden (fun h : Op.bytesLess (L.getD ((lo + hi) / 2) ⟨#[]⟩).toList s.toList = true => show ∀ t, t < (lo + hi) / 2 + 1 → Op.bytesLess (L.getD t ⟨#[]⟩).toList s.toList = true from fun t ht => by
        rcases Nat.lt_or_ge t ((lo + hi) / 2) with h3 | h3
        · exact lt_b_trans _ _ _ (strict_lt hs.out h3 (by have := hN.out; omega)) h
        · obtain rfl : t = (lo + hi) / 2 := by omega
          exact h)
      have hhi2 := hidden (fun h : Op.bytesLess (L.getD ((lo + hi) / 2) ⟨#[]⟩).toList s.toList = false => show ∀ t, (lo + hi) / 2 ≤ t → t < L.length → Op.bytesLess (L.getD t ⟨#[]⟩).toList s.toList = false from fun t ht ht2 => by
        rcases Nat.lt_or_ge ((lo + hi) / 2) t with h3 | h3
        · cases hx : Op.bytesLess (L.getD t ⟨#[]⟩).toList s.toList with
          | false => rfl
          | true => rw [lt_b_trans _ _ _ (strict_lt hs.out h3 ht2) hx] at h; cases h
        · obtain rfl : t = (lo + hi) / 2 := by omega
          exact h)
      generalize L.getD ((lo + hi) / 2) ⟨#[]⟩ = p at *
      have hcall := fun w => hless.out p w
      cases hcm : Op.bytesLess p.toList s.toList with
      | true =>
        have hI := hidden (hlo.out hcm)
        rw [hcm] at hcall
        replace hcm := hidden hcm
        clear hlo hhi2
        go_wp2_with fail
        refine (hcall _).mono ?_
        rintro e w1 ⟨rfl, rfl⟩
        clear hcall c0
        go_wp2
        go_round
        case rel => exact ⟨(lo + hi) / 2 + 1, hi, by rw [show ((lo : Int) + (hi : Int)) / 2 + 1 = (((lo + hi) / 2 + 1 : Nat) : Int) by omega], rfl, by omega, hhi, hI, h2⟩
        case measure => simp [intOf]; omega
      | false =>
        have hI := hidden (hhi2.out hcm)
        rw [hcm] at hcall
        replace hcm := hidden hcm
        clear hlo hhi2
        go_wp2_with fail
        refine (hcall _).mono ?_
        rintro e w1 ⟨rfl, rfl⟩
        clear hcall c0
        go_wp2
        go_round
        case rel => exact ⟨lo, (lo + hi) / 2, rfl, by rw [show ((lo : Int) + (hi : Int)) / 2 = (((lo + hi) / 2 : Nat) : Int) by omega], by omega, by omega, h1, hI⟩
        case measure => simp [intOf]; omega
    · obtain rfl : hi = lo := by omega
      by_cases hn : hi < N
      · have hnL : hi < L.length := by have := hN.out; omega
        obtain ⟨b, off, rfl, hb, c0⟩ := txt_at' h.out hnL
        have hget : Hid (L[hi]? = some (L.getD hi ⟨#[]⟩)) := hidden (by simp [List.getD, hnL])
        have hno := hidden fun h3 => bst_no hs.out h1.out h2.out (fun _ => h3)
        generalize L.getD hi ⟨#[]⟩ = p at *
        by_cases he : p = s
        · subst he
          have hR : Hid (BsT L p hi true) := hidden ⟨fun _ => hget.out, fun h => (by cases h)⟩
          clear hno
          go_wp2
          go_ret2
          exact ⟨⟨hi, true⟩, rfl, hR.out, rfl⟩
        · have he1 : (p.toList == s.toList) = false := by simpa using fun h => he (txt_inj h)
          have he2 : ¬ p.toList = s.toList := fun h => he (txt_inj h)
          have hR : Hid (BsT L s hi false) := hidden ⟨fun h => (by cases h), fun _ => hno.out he⟩
          have hcall := fun w => hnan.out p w
          replace he := hidden he
          clear hno
          go_wp2_with fail
          refine (hcall _).mono ?_
          rintro e w1 ⟨rfl, rfl⟩
          go_wp2
          go_ret2
          exact ⟨⟨hi, false⟩, rfl, hR.out, rfl⟩
      · have hR : Hid (BsT L s hi false) := hidden ⟨fun h => (by cases h), fun _ => bst_no hs.out h1.out h2.out (fun h => absurd h (by have := hN.out; omega))⟩
        go_wp2
        go_ret2
        exact ⟨⟨hi, false⟩, rfl, hR.out, rfl⟩
theorem arc_at {w : World} {a : Option Addr} {ps : List Ar} (h : RowAt w a (arR.flat ps)) {k : Nat} (hk : k < ps.length) :
    ∃ b off, a = some ⟨b, off, none⟩ ∧ b < w.heap.size ∧ w.cell? ⟨b, off + k * 4, none⟩ = some (.int .i64 ((ps.getD k Ar.none).lb : Int)) ∧ w.cell? ⟨b, off + k * 4 + 1, none⟩ = some (.int .i64 ((ps.getD k Ar.none).to : Int)) ∧ w.cell? ⟨b, off + k * 4 + 2, none⟩ = some (.int .i64 ((ps.getD k Ar.none).wt : Int)) ∧ w.cell? ⟨b, off + k * 4 + 3, none⟩ = some (.int .i64 ((ps.getD k Ar.none).ed : Int)) := by
  obtain ⟨b, off, h1, h2, h3⟩ := rec_at h hk
  exact ⟨b, off, h1, h2, h3 0 _ rfl, h3 1 _ rfl, h3 2 _ rfl, h3 3 _ rfl⟩
set_option maxHeartbeats 1600000 in
theorem byl_c (x : Ar) (n : Int) (w : World) (hx : x.lb ≤ 100000) (h0 : 0 ≤ n) (h1 : n ≤ 100000) : Calls Tryz.prog 65 #[.agg #[.int .i64 (x.lb : Int), .int .i64 (x.to : Int), .int .i64 (x.wt : Int), .int .i64 (x.ed : Int)], .int .i64 n] w fun e w' => e = .returned (.int .i64 ((x.lb : Int) - n)) ∧ Below w.heap.size w w' := by
  obtain ⟨xa, xb, xc, xn⟩ := x
  simp only at hx
  have hX := heap_alloc_new w (.cells #[.int .i64 (xa : Int), .int .i64 (xb : Int), .int .i64 (xc : Int), .int .i64 (xn : Int)] 78)
  obtain ⟨⟨b0, b1, b2, b3⟩, -⟩ := box4f hX
  have hB0 : Hid (Below w.heap.size w (w.alloc (.cells #[.int .i64 (xa : Int), .int .i64 (xb : Int), .int .i64 (xc : Int), .int .i64 (xn : Int)] 78))) := (Below.refl _ _).alloc (Nat.le_refl _) _
  have hw1 : (xa : Int) - n ≤ 9223372036854775807 := by omega
  have hw2 : -9223372036854775808 ≤ (xa : Int) - n := by omega
  clear hX
  go_enter Tryz.func65, Tryz.ntmps65
  go_wp2
  go_ret
  exact ⟨by first | done | rfl, hB0.out⟩
/-- Arcs that rise by label. -/
def RisesA (ps : List Ar) : Prop := ∀ i j, i ≤ j → j < ps.length → ((ps.getD i Ar.none).lb : Int) ≤ ((ps.getD j Ar.none).lb : Int)
/-- What the search's answer says. -/
def BsResA (ps : List Ar) (n : Int) (e : Ending) : Prop := ∃ F : Nat, ∃ b, e = .returned (.tuple #[.int .i64 F, .bool b]) ∧ F ≤ ps.length ∧ (∀ t, t < F → ((ps.getD t Ar.none).lb : Int) < n) ∧ ∀ t, F ≤ t → t < ps.length → n ≤ ((ps.getD t Ar.none).lb : Int)
set_option maxHeartbeats 3200000 in
set_option maxRecDepth 100000 in
theorem bsfA_c (v : Value) (n : Int) (ps : List Ar) (w : World) (hv : HoldsR arR w v ps) (hx : ps.length ≤ 1000) (hs : RisesA ps) (hn0 : 0 ≤ n ∧ n ≤ 100000) (hlb : ∀ p ∈ ps, p.lb ≤ 100000) :
    Calls Tryz.prog 64 #[v, .int .i64 n, .func (.func 65) #[] #[]] w fun e w' => BsResA ps n e ∧ Below w.heap.size w w' := by
  obtain ⟨a, cap, rfl, hra⟩ := hv
  replace hra := hidden hra
  replace hs := hidden hs
  replace hlb := hidden hlb
  obtain ⟨hn1, hn2⟩ := hn0
  go_enter Tryz.func64, Tryz.ntmps64
  go_wp2
  go_loopw [9, 10] (fun u9 u10 wr => ∃ lo hi : Nat, u9 = .int .i64 lo ∧ u10 = .int .i64 hi ∧ lo ≤ hi ∧ hi ≤ ps.length ∧ Hid (∀ t, t < lo → ((ps.getD t Ar.none).lb : Int) < n) ∧ Hid (∀ t, hi ≤ t → t < ps.length → n ≤ ((ps.getD t Ar.none).lb : Int)) ∧ Hid (Below w.heap.size w wr))
    (fun i j _ => (intOf j).toNat - (intOf i).toNat)
  case atStart => exact ⟨0, ps.length, rfl, rfl, Nat.zero_le _, Nat.le_refl _, fun t ht => by omega, fun t h1 h2 => by omega, Below.refl _ _⟩
  case round =>
    obtain ⟨lo, hi, rfl, rfl, hlh, hhi, h1, h2, hnx⟩ := hrel
    by_cases hlt : lo < hi
    · obtain ⟨b, off, rfl, hb, c0, c1, c2, c3⟩ := arc_at (hra.out.below hnx.out) (k := (lo + hi) / 2) (by omega)
      have hlo := hidden (fun h : ((ps.getD ((lo + hi) / 2) Ar.none).lb : Int) < n => show ∀ t, t < (lo + hi) / 2 + 1 → ((ps.getD t Ar.none).lb : Int) < n from fun t ht => by
        have := hs.out t ((lo + hi) / 2) (by omega) (by omega); omega)
      have hhi2 := hidden (fun h : n ≤ ((ps.getD ((lo + hi) / 2) Ar.none).lb : Int) => show ∀ t, (lo + hi) / 2 ≤ t → t < ps.length → n ≤ ((ps.getD t Ar.none).lb : Int) from fun t ht ht2 => by
        have := hs.out ((lo + hi) / 2) t ht ht2; omega)
      have hpl : (ps.getD ((lo + hi) / 2) Ar.none).lb ≤ 100000 := hlb.out _ (by
        rw [show ps.getD ((lo + hi) / 2) Ar.none = ps[(lo + hi) / 2]'(by omega) by simp [List.getD, show (lo + hi) / 2 < ps.length by omega]]
        exact List.getElem_mem _)
      generalize ps.getD ((lo + hi) / 2) Ar.none = p at *
      have hcall := fun z => byl_c p n z hpl hn1 hn2
      obtain ⟨pa, pb, pc, pn⟩ := p
      simp only at c0 c1 c2 c3 hcall hlo hhi2 hpl
      have hsz := hidden hnx.out.size
      by_cases hcm : (pa : Int) - n < 0
      · have hI := hidden (hlo.out (by omega))
        clear hlo hhi2
        generalize (pa : Int) - n = c at *
        go_wp2_with fail
        refine (hcall _).mono ?_
        rintro e w1 ⟨rfl, hB1⟩
        have hBL := hidden (hnx.out.trans (hB1.mono hsz.out))
        clear hB1 hcall c0 c1 c2 c3 hnx
        go_wp2
        go_roundw
        case rel => exact ⟨(lo + hi) / 2 + 1, hi, by rw [show ((lo : Int) + (hi : Int)) / 2 + 1 = (((lo + hi) / 2 + 1 : Nat) : Int) by omega], rfl, by omega, hhi, hI, h2, hBL⟩
        case measure => simp [intOf]; omega
      · have hI := hidden (hhi2.out (by omega))
        clear hlo hhi2
        generalize (pa : Int) - n = c at *
        go_wp2_with fail
        refine (hcall _).mono ?_
        rintro e w1 ⟨rfl, hB1⟩
        have hBL := hidden (hnx.out.trans (hB1.mono hsz.out))
        clear hB1 hcall c0 c1 c2 c3 hnx
        go_wp2
        go_roundw
        case rel => exact ⟨lo, (lo + hi) / 2, rfl, by rw [show ((lo : Int) + (hi : Int)) / 2 = (((lo + hi) / 2 : Nat) : Int) by omega], by omega, by omega, h1, hI, hBL⟩
        case measure => simp [intOf]; omega
    · obtain rfl : hi = lo := by omega
      have hR : ∀ b, Hid (BsResA ps n (.returned (.tuple #[.int .i64 hi, .bool b]))) := fun b => ⟨hi, b, rfl, hhi, h1.out, h2.out⟩
      by_cases hn : hi < ps.length
      · obtain ⟨b, off, rfl, hb, c0, c1, c2, c3⟩ := arc_at (hra.out.below hnx.out) hn
        have hpl : (ps.getD hi Ar.none).lb ≤ 100000 := hlb.out _ (by
          rw [show ps.getD hi Ar.none = ps[hi] by simp [List.getD, hn]]
          exact List.getElem_mem _)
        generalize ps.getD hi Ar.none = p at *
        have hcall := fun z => byl_c p n z hpl hn1 hn2
        obtain ⟨pa, pb, pc, pn⟩ := p
        simp only at c0 c1 c2 c3 hcall hpl
        have hsz := hidden hnx.out.size
        generalize (pa : Int) - n = c at *
        go_wp2_with fail
        refine (hcall _).mono ?_
        rintro e w1 ⟨rfl, hB1⟩
        have hBL := hidden (hnx.out.trans (hB1.mono hsz.out))
        clear hB1 hcall c0 c1 c2 c3 hnx
        go_wp2
        all_goals
          go_ret2
          exact ⟨(hR _).out, hBL.out⟩
      · go_wp2
        go_ret2
        exact ⟨(hR _).out, hnx.out⟩
set_option maxHeartbeats 1600000 in
theorem firstOf_c (v : Value) (n : Int) (ps : List Ar) (w : World) (hv : HoldsR arR w v ps) (hx : ps.length ≤ 1000) (hs : RisesA ps) (hn0 : 0 ≤ n ∧ n ≤ 100000) (hlb : ∀ p ∈ ps, p.lb ≤ 100000) :
    Calls Tryz.prog 45 #[v, .int .i64 n] w fun e w' => ∃ F : Nat, e = .returned (.int .i64 F) ∧ F ≤ ps.length ∧ (∀ t, t < F → ((ps.getD t Ar.none).lb : Int) < n) ∧ (∀ t, F ≤ t → t < ps.length → n ≤ ((ps.getD t Ar.none).lb : Int)) ∧ Below w.heap.size w w' := by
  have hb := bsfA_c v n ps w hv hx hs hn0 hlb
  obtain ⟨a, cap, rfl, hra⟩ := hv
  replace hra := hidden hra
  go_enter Tryz.func45, Tryz.ntmps45
  go_wp2_with fail
  refine hb.mono ?_
  rintro e w1 ⟨⟨F, bb, rfl, hF, h1, h2⟩, hB1⟩
  replace h1 := hidden h1
  replace h2 := hidden h2
  replace hB1 := hidden hB1
  replace hF := hidden hF
  clear hb
  go_wp2
  go_ret
  exact ⟨F, rfl, hF.out, h1.out, h2.out, hB1.out⟩
end Go.Proofs.YtfkcopokeofjoaaGreat
/-
  WHAT ELSE IS TOLD OF A GRAPH's ROWS: labels, their places, how many, and the edges of a step (csr's Labels, Label, Nodes, Edges, Degree, Step), by contract.
-/
namespace Go.Proofs.YtfkcopokeofjoaaGreat
open Go.ChangeShapes Go.WideShapes Go.ChangeAt Go.RowKit Go.Maps

theorem placeL_at {L : List ByteArray} (hs : StrictT L) {s : ByteArray} {F : Nat} (h : L[F]? = some s) : placeL L s = F :=
  placeL_first (fun j hj x hx e => by
    subst e
    have h1 := (List.getElem?_eq_some_iff.1 h).1
    have h2 := strict_lt hs hj h1
    rw [show L.getD j ⟨#[]⟩ = x by simp [List.getD, hx], show L.getD F ⟨#[]⟩ = x by simp [List.getD, h], lt_b_irrefl] at h2
    cases h2) h
theorem placeL_inj {L : List ByteArray} {s t : ByteArray} (hs : s ∈ L) (ht : t ∈ L) (h : placeL L s = placeL L t) : s = t := by
  have h1 := (placeL_mem hs).2
  have h2 := (placeL_mem ht).2
  rw [h] at h1
  exact h1.symm.trans h2
section
variable (g : Gr) (C : CsX) (B : Nat)
set_option maxRecDepth 100000 in
theorem nodes_c (w : World) (hC : CsrAt g C B w) : Calls Tryz.prog 28 #[.pointer (some ⟨C.b, 0, none⟩)] w fun e w' => e = .returned (.int .i64 (g.ns.length : Int)) ∧ w' = w := by
  obtain ⟨⟨c0, -⟩, -⟩ := box7c hC.box
  clear hC
  go_enter Tryz.func28, Tryz.ntmps28
  go_wp2
  go_ret
  exact ⟨rfl, rfl⟩
set_option maxRecDepth 100000 in
theorem label_c (s : ByteArray) (w : World) (hC : CsrAt g C B w) (hl : C.L.length ≤ 1000) :
    Calls Tryz.prog 43 #[.pointer (some ⟨C.b, 0, none⟩), .string s] w fun e w' => ∃ q : BsA, e = .returned (.tuple #[.int .i64 (q.F : Nat), .bool q.b]) ∧ (q.b = true → s ∈ C.L ∧ q.F = placeL C.L s) ∧ (q.b = false → s ∉ C.L ∧ q.F = 0) ∧ w' = w := by
  obtain ⟨⟨-, c1, -⟩, -⟩ := box7c hC.box
  have hb := bst_c C.L s (some ⟨C.gl, 0, none⟩) C.lc w (by
    obtain ⟨a2, c2, h1, h2⟩ := holds_of_owns hC.lab
    simp only [Value.slice.injEq] at h1
    obtain ⟨rfl, _, _⟩ := h1
    exact h2) hl hC.strict
  have hst := hidden hC.strict
  clear hC
  go_enter Tryz.func43, Tryz.ntmps43
  go_wp2_with fail
  refine hb.mono ?_
  rintro e w1 ⟨⟨F, b⟩, rfl, hR, rfl⟩
  clear hb
  cases b with
  | true =>
    have h1 := hidden (hR.yes rfl)
    clear hR
    go_wp2
    go_ret2
    exact ⟨⟨F, true⟩, rfl, fun _ => ⟨List.mem_of_getElem? h1.out, (placeL_at hst.out h1.out).symm⟩, fun h => (by cases h), rfl⟩
  | false =>
    have h1 := hidden (hR.no rfl)
    clear hR
    go_wp2
    go_ret2
    exact ⟨⟨0, false⟩, rfl, fun h => (by cases h), fun _ => ⟨h1.out, rfl⟩, rfl⟩
end
/-- A row is told edge by edge. -/
theorem rowA_eq (g : Gr) (C : CsX) (back : Bool) (n : Int) (hl : ∀ p ∈ C.l back, p < g.es.length) : rowA g C back n = (rowI (whoOf g.es back) (C.l back) g.ns.length n).map (arcOf C.L g.es back) := by
  unfold rowA
  refine List.map_congr_left fun p hp => ?_
  refine arcsL_at _ _ _ (hl p ?_)
  unfold rowI at hp
  split at hp
  · exact (mem_part.1 hp).1
  · cases hp
/-- The edges of a step. -/
def stepI (g : Gr) (C : CsX) (back : Bool) (n : Int) (s : ByteArray) : List Nat := (rowI (whoOf g.es back) (C.l back) g.ns.length n).filter fun p => decide ((g.es.getD p Eg.none).l.toList = s.toList)
theorem cut_lb {ps : List Ar} {n : Nat} (F L : Nat) (h1 : F ≤ L) (h2 : L ≤ ps.length) (a1 : ∀ t, t < F → (ps.getD t Ar.none).lb < n) (a2 : ∀ t, F ≤ t → t < L → (ps.getD t Ar.none).lb = n) (a3 : ∀ t, L ≤ t → t < ps.length → n < (ps.getD t Ar.none).lb) :
    (ps.take L).drop F = ps.filter fun p => decide (p.lb = n) := by
  have e : ps = ps.take F ++ ((ps.take L).drop F ++ ps.drop L) := by
    rw [← List.append_assoc]
    have : ps.take F ++ (ps.take L).drop F = ps.take L := by
      have h := List.take_append_drop F (ps.take L)
      rwa [List.take_take, Nat.min_eq_left h1] at h
    rw [this, List.take_append_drop]
  have hx : ∀ (k : Nat) (hk : k < ps.length), ps.getD k Ar.none = ps[k] := fun k hk => by simp [List.getD, hk]
  conv => rhs; rw [e]
  rw [List.filter_append, List.filter_append]
  have f1 : (ps.take F).filter (fun p => decide (p.lb = n)) = [] := by
    rw [List.filter_eq_nil_iff]
    intro p hp
    obtain ⟨k, hk, rfl⟩ := List.mem_iff_getElem.1 hp
    rw [List.length_take] at hk
    have := a1 k (by omega)
    rw [hx k (by omega)] at this
    simp; omega
  have f2 : ((ps.take L).drop F).filter (fun p => decide (p.lb = n)) = (ps.take L).drop F := by
    rw [List.filter_eq_self]
    intro p hp
    obtain ⟨k, hk, rfl⟩ := List.mem_iff_getElem.1 hp
    rw [List.length_drop, List.length_take] at hk
    have := a2 (F + k) (by omega) (by omega)
    rw [hx (F + k) (by omega)] at this
    simp; omega
  have f3 : (ps.drop L).filter (fun p => decide (p.lb = n)) = [] := by
    rw [List.filter_eq_nil_iff]
    intro p hp
    obtain ⟨k, hk, rfl⟩ := List.mem_iff_getElem.1 hp
    rw [List.length_drop] at hk
    have := a3 (L + k) (by omega) (by omega)
    rw [hx (L + k) (by omega)] at this
    simp; omega
  rw [f1, f2, f3]
  simp
/-- What a graph's good rows keep: ahead of the walk of a step. -/
structure GoodC (g : Gr) (C : CsX) : Prop where
  ed : ∀ i, i < g.es.length → EdgeOk g C.L i
  len : C.L.length ≤ 1000
  ns : g.ns.length ≤ 1000
  es : g.es.length ≤ 1000
  ord : ∀ back, Ordered (keyOf (keysA (arcsL C.L g.es back))) g.es.length (C.l back)
  strict : StrictT C.L
  mem : ∀ s, s ∈ C.L ↔ s ∈ g.es.map Eg.l
theorem CsrAt.good {g : Gr} {C : CsX} {B : Nat} {w : World} (h : CsrAt g C B w) (hok : (checkG g).2 = 0) (hs : g.sm) : GoodC g C := by
  have hn := hs.1
  have he := hs.2.2.1
  refine ⟨fun i hi => ?_, ?_, hn, he, fun back => ?_, h.strict, h.mem⟩
  · obtain ⟨v1, v2, v3, v4, v5, v6⟩ := good_edges hok _ (getD_memG (d := Eg.none) hi)
    exact ⟨by unfold fromOf; omega, by unfold toOf; omega, by omega, (placeL_mem ((h.mem _).2 (List.mem_map.2 ⟨_, getD_memG (d := Eg.none) hi, rfl⟩))).1⟩
  · have h1 := nodup_len C.L _ h.strict.nodup (fun x hx => (h.mem x).1 hx)
    rw [List.length_map] at h1
    omega
  · cases back
    · exact h.o1
    · exact h.o2
theorem GoodC.ok {g : Gr} {C : CsX} (h : GoodC g C) (back : Bool) {i : Nat} (hi : i < g.es.length) : (arcOf C.L g.es back i).ok := by
  obtain ⟨q1, q2, q3, q4⟩ := h.ed i hi
  have h1 := h.len
  have h2 := h.ns
  refine ⟨?_, ?_, q3⟩
  · show placeL C.L _ < _; omega
  · show (if back = true then fromOf g.es i else toOf g.es i) < _
    split <;> omega
theorem rowI_mem {D : Nat → Nat} {l : List Nat} {N : Nat} {n : Int} {p : Nat} (h : p ∈ rowI D l N n) : p ∈ l := by
  unfold rowI at h
  split at h
  · exact (mem_part.1 h).1
  · cases h
theorem rowI_ord {D : Nat → Nat} {l : List Nat} {N : Nat} {n : Int} {K : Nat → Nat} {m : Nat} (ho : Ordered K m l) : (rowI D l N n).Pairwise (KeyLt K) := by
  unfold rowI
  split
  · exact ho.1.sublist List.filter_sublist
  · exact List.Pairwise.nil
theorem GoodC.rises {g : Gr} {C : CsX} (h : GoodC g C) (back : Bool) (n : Int) : RisesA ((rowI (whoOf g.es back) (C.l back) g.ns.length n).map (arcOf C.L g.es back)) := by
  intro i j hij hj
  rw [List.length_map] at hj
  have hm := fun p (hp : p ∈ rowI (whoOf g.es back) (C.l back) g.ns.length n) => ((h.ord back).2 p).1 (rowI_mem hp)
  rw [show ((rowI (whoOf g.es back) (C.l back) g.ns.length n).map (arcOf C.L g.es back)).getD i Ar.none = arcOf C.L g.es back ((rowI (whoOf g.es back) (C.l back) g.ns.length n)[i]'(by omega)) by simp [List.getD, show i < (rowI (whoOf g.es back) (C.l back) g.ns.length n).length by omega],
    show ((rowI (whoOf g.es back) (C.l back) g.ns.length n).map (arcOf C.L g.es back)).getD j Ar.none = arcOf C.L g.es back ((rowI (whoOf g.es back) (C.l back) g.ns.length n)[j]) by simp [List.getD, hj]]
  rcases Nat.lt_or_ge i j with h1 | h1
  · have hi := hm _ (List.getElem_mem (show i < (rowI (whoOf g.es back) (C.l back) g.ns.length n).length by omega))
    have hj' := hm _ (List.getElem_mem hj)
    have h2 := (key_lt hi hj' (h.ok back hi) (h.ok back hj')).1 (List.pairwise_iff_getElem.1 (rowI_ord (h.ord back)) i j (by omega) hj h1)
    unfold LtA at h2
    omega
  · obtain rfl : i = j := by omega
    exact Int.le_refl _
theorem GoodC.step {g : Gr} {C : CsX} (h : GoodC g C) (back : Bool) (n : Int) (s : ByteArray) (hs : s ∈ C.L) :
    ((rowI (whoOf g.es back) (C.l back) g.ns.length n).map (arcOf C.L g.es back)).filter (fun p => decide (p.lb = placeL C.L s)) = (stepI g C back n s).map (arcOf C.L g.es back) := by
  rw [List.filter_map]
  unfold stepI
  congr 1
  refine List.filter_congr fun p hp => ?_
  have hm := ((h.ord back).2 p).1 (rowI_mem hp)
  show decide (placeL C.L (g.es.getD p Eg.none).l = placeL C.L s) = _
  have hl : (g.es.getD p Eg.none).l ∈ C.L := (h.mem _).2 (List.mem_map.2 ⟨_, getD_memG (d := Eg.none) hm, rfl⟩)
  congr 1
  exact propext ⟨fun e => by rw [placeL_inj hl hs e], fun e => by rw [txt_inj e]⟩
theorem GoodC.none {g : Gr} {C : CsX} (h : GoodC g C) (back : Bool) (n : Int) (s : ByteArray) (hs : s ∉ C.L) : stepI g C back n s = [] := by
  unfold stepI
  rw [List.filter_eq_nil_iff]
  intro p hp hd
  have hm := ((h.ord back).2 p).1 (rowI_mem hp)
  have e := txt_inj (of_decide_eq_true hd)
  exact hs ((h.mem _).2 (List.mem_map.2 ⟨_, getD_memG (d := Eg.none) hm, e⟩))
end Go.Proofs.YtfkcopokeofjoaaGreat
/-
  THE EDGES OF A STEP: the program's and the reference's; and rows of arcs held against each other (where they are the same), by contract.
-/
namespace Go.Proofs.YtfkcopokeofjoaaGreat
open Go.ChangeShapes Go.WideShapes Go.ChangeAt Go.RowKit Go.Maps

theorem SlR.cutR {α : Type} {R : Rec α} {w : World} {a : Option Addr} {n c : Nat} {ps : List α} (h : SlR R w (.slice a n c) ps) {lo hi : Nat} (h1 : lo ≤ hi) (h2 : hi ≤ ps.length) : SlR R w (.slice (if c = lo then a else a.map (·.add (lo * R.n))) (hi - lo) (c - lo)) ((ps.take hi).drop lo) := by
  obtain ⟨a', c', he, q1, q2, q3, q4⟩ := h
  simp only [Value.slice.injEq] at he
  obtain ⟨rfl, rfl, rfl⟩ := he
  have hlen : (ps.take hi).length = hi := by rw [List.length_take]; omega
  have hrow := (q4.toR hi h2).fromR lo (by rw [hlen]; omega)
  refine ⟨_, _, by rw [List.length_drop, hlen], by rw [List.length_drop, hlen]; omega, fun e => ?_, fun x e => ?_, ?_⟩
  · split at e
    · omega
    · have := q2 (by simpa using e); omega
  · split at e
    · exact q3 x e
    · obtain ⟨y, hy, rfl⟩ := Option.map_eq_some_iff.1 e
      have := q3 y hy
      obtain ⟨b', off, sb⟩ := y
      simp only at this
      subst this
      rw [add_plain]
  · split
    · have h0 : (ps.take hi).drop lo = [] := List.drop_eq_nil_of_le (by rw [hlen]; omega)
      rw [h0]
      exact .inl rfl
    · exact hrow
theorem owns_low {w : World} {B B' t s n : Nat} {v : Value} {xs : List Value} (h : w.ownsRow B t s v n xs) (hb : B' ≤ B) : w.ownsRow B' t s v n xs := by
  obtain ⟨h1, h2⟩ := h
  refine ⟨h1, ?_⟩
  rcases h2 with h | ⟨g, cap, cur, q1, q2, q3, q4⟩
  · exact .inl h
  · exact .inr ⟨g, cap, cur, q1, Nat.le_trans hb q2, q3, q4⟩
set_option maxHeartbeats 3200000 in
set_option maxRecDepth 100000 in
theorem step_own (g : Gr) (C : CsX) (B : Nat) (n : Int) (s : ByteArray) (back : Bool) (w : World) (hC : CsrAt g C B w) (hok : (checkG g).2 = 0) (hg : GoodC g C) :
    Calls Tryz.prog 30 #[.pointer (some ⟨C.b, 0, none⟩), .int .i64 n, .agg #[.string s, .bool back]] w fun e w' => ∃ a' c', e = .returned (.slice a' (stepI g C back n s).length c') ∧ w'.ownsRow w.heap.size 78 4 (.slice a' (stepI g C back n s).length c') (stepI g C back n s).length (arR.flat ((stepI g C back n s).map (arcOf C.L g.es back))) ∧ Below w.heap.size w w' := by
  have hB0 : Hid (Below w.heap.size w (w.alloc (.cells #[.string s, .bool back] 48))) := (Below.refl _ _).alloc (Nat.le_refl _) _
  obtain ⟨⟨b0, b1⟩, -⟩ := box2f (heap_alloc_new w (.cells #[.string s, .bool back] 48))
  have hl := label_c g C B s _ (hC.step hB0.out) hg.len
  have hr := row_c g C B back n _ (hC.step hB0.out) hok hg.ns hg.es
  rw [rowA_eq g C back n (fun p hp => ((hg.ord back).2 p).1 hp)] at hr
  have hrl : ((rowI (whoOf g.es back) (C.l back) g.ns.length n).map (arcOf C.L g.es back)).length ≤ 1000 := by
    rw [List.length_map]
    have h1 := rowA_len g C back n
    rw [rowA_eq g C back n (fun p hp => ((hg.ord back).2 p).1 hp), List.length_map] at h1
    have h2 := (hg.ord back).len
    have h3 := hg.es
    omega
  have hrise := hidden (hg.rises back n)
  have hlb : Hid (∀ p ∈ (rowI (whoOf g.es back) (C.l back) g.ns.length n).map (arcOf C.L g.es back), p.lb ≤ 100000) := hidden fun p hp => by
    obtain ⟨i, hi, rfl⟩ := List.mem_map.1 hp
    have h1 := (hg.ok back (((hg.ord back).2 i).1 (rowI_mem hi))).lb
    omega
  have hst := hidden fun hs => hg.step back n s hs
  have hno := hidden fun hs => hg.none back n s hs
  have hpl : Hid (s ∈ C.L → placeL C.L s ≤ 1000) := hidden fun h => by
    have h1 := (placeL_mem h).1
    have h2 := hg.len
    omega
  generalize hRdef : (rowI (whoOf g.es back) (C.l back) g.ns.length n).map (arcOf C.L g.es back) = R at *
  have hSl : Hid (((stepI g C back n s).map (arcOf C.L g.es back)).length = (stepI g C back n s).length) := hidden (List.length_map ..)
  obtain ⟨X, hX⟩ : ∃ X, Hid (X = (stepI g C back n s).map (arcOf C.L g.es back)) := ⟨_, hidden rfl⟩
  rw [← hX.out] at hSl ⊢
  rw [← hX.out] at hst
  have hno2 : Hid (s ∉ C.L → X = []) := hidden fun h => by rw [hX.out, hno.out h]; rfl
  generalize (stepI g C back n s).length = SL at *
  clear hC hok hg hRdef hX hno
  go_enter Tryz.func30, Tryz.ntmps30
  go_wp2_with fail
  refine hl.mono ?_
  rintro e w1 ⟨⟨F, b⟩, rfl, hy, hn, rfl⟩
  clear hl
  cases b with
  | false =>
    obtain ⟨h1, h2⟩ := hn rfl
    have hXn := hidden (hno2.out h1)
    have hS0 : Hid (SL = 0) := hidden (by rw [← hSl.out, hXn.out]; rfl)
    clear hy hn hr hst h2
    go_wp2
    go_ret
    exact ⟨none, 0, by rw [hS0.out]; first | done | rfl, by rw [hXn.out, hS0.out]; exact World.ownsRow_nil .., hB0.out⟩
  | true =>
    obtain ⟨h1, h2⟩ := hy rfl
    simp only at h2
    have hst2 := hidden (hst.out h1)
    have hF9 : F ≤ 1000 := by rw [h2]; exact hpl.out h1
    rw [← h2] at hst2
    replace h2 := hidden h2
    replace h1 := hidden h1
    clear hy hn hst hno2 hpl
    go_wp2_with fail
    refine hr.mono ?_
    rintro e w2 ⟨ra, rn, rc, rfl, hS, hB2⟩
    have hBy : Hid (Below w.heap.size w w2) := hB0.out.trans (hB2.mono hB0.out.size)
    obtain ⟨hrn, hroom⟩ : rn = R.length ∧ rn ≤ rc := by
      obtain ⟨_, _, h3, h4, _⟩ := id hS
      simp only [Value.slice.injEq] at h3
      omega
    subst hrn
    have hf1 := firstOf_c _ (F : Int) R w2 hS.holds hrl hrise.out (by omega) hlb.out
    replace hS := hidden hS
    clear hr hB2 hB0 b0 b1
    go_wp2_with fail
    refine hf1.mono ?_
    rintro e w3 ⟨F1, rfl, hF1, q1, q2, hB3⟩
    replace hS := hidden (hS.out.below hB3)
    replace hBy : Hid (Below w.heap.size w w3) := hBy.out.trans (hB3.mono hBy.out.size)
    have hcut := hidden ((hS.out).cutR hF1 (Nat.le_refl _))
    rw [List.take_of_length_le (Nat.le_refl _)] at hcut
    have hris2 : RisesA (R.drop F1) := fun i j hij hj => by
      rw [List.length_drop] at hj
      have h := hrise.out (F1 + i) (F1 + j) (by omega) (by omega)
      simpa [List.getD, List.getElem?_drop] using h
    have hf2 := firstOf_c _ ((F : Int) + 1) (R.drop F1) w3 hcut.out.holds (by rw [List.length_drop]; omega) hris2 (by omega) (fun p hp => hlb.out p (List.mem_of_mem_drop hp))
    replace q1 := hidden q1
    replace q2 := hidden q2
    have hF1i : (F1 : Int) ≤ (R.length : Int) := by omega
    have hF1c : (F1 : Int) ≤ (rc : Int) := by omega
    have hRc : (R.length : Int) ≤ (rc : Int) := by omega
    have hFi : (F : Int) ≤ 1000 := by omega
    clear hf1 hB3 hris2 hcut
    have hRn : (arR.n : Nat) = 4 := rfl
    rw [hRn] at hf2
    clear hRn
    by_cases hcl : rc = F1
    · subst hcl
      rw [if_pos rfl, Nat.sub_self, show R.length - rc = 0 by omega] at hf2
      go_wp2_with fail
      refine hf2.mono ?_
      rintro e w4 ⟨F2, rfl, hF2, q3, q4, hB4⟩
      rw [List.length_drop] at hF2
      obtain rfl : F2 = 0 := by omega
      rw [show ((0 : Nat) : Int) = 0 from rfl]
      replace hS := hidden (hS.out.below hB4)
      replace hBy : Hid (Below w.heap.size w w4) := hBy.out.trans (hB4.mono hBy.out.size)
      have heq : Hid ((R.take (rc + 0)).drop rc = X) := hidden (by
        rw [← hst2.out]
        refine cut_lb rc (rc + 0) (by omega) (by omega) (fun t ht => by have := q1.out t ht; omega) (fun t ht1 ht2 => ?_) (fun t ht1 ht2 => ?_)
        · have h5 := q3 (t - rc) (by omega)
          have h6 := q2.out t ht1 (by omega)
          rw [show (R.drop rc).getD (t - rc) Ar.none = R.getD t Ar.none by simp only [List.getD, List.getElem?_drop]; rw [show rc + (t - rc) = t by omega]] at h5
          omega
        · have h5 := q4 (t - rc) (by omega) (by rw [List.length_drop]; omega)
          rw [show (R.drop rc).getD (t - rc) Ar.none = R.getD t Ar.none by simp only [List.getD, List.getElem?_drop]; rw [show rc + (t - rc) = t by omega]] at h5
          omega)
      have hcut := hS.out.cutR (lo := rc) (hi := rc + 0) (by omega) (by omega)
      rw [heq.out] at hcut
      have hXl : Hid (X.length = 0) := hidden (by rw [← heq.out, List.length_drop, List.length_take]; omega)
      obtain ⟨xa, xc, hx1, hx2, hx3, hx4, hx5⟩ := hcut
      simp only [Value.slice.injEq] at hx1
      obtain ⟨hxa, hxn, hxc⟩ := hx1
      have hcl2 := aclone_c xa xc X w4 hx5 (by rw [hXl.out]; omega) hx3
      rw [← hxa, ← hxc, hXl.out] at hcl2
      have hRn : (arR.n : Nat) = 4 := rfl
      rw [hRn] at hcl2
      have hS2 : Hid (SL = 0) := hidden (by rw [← hSl.out, hXl.out])
      have h0i : (rc : Int) + (0 : Int) ≤ (R.length : Int) := by omega
      have h0c : (rc : Int) + (0 : Int) ≤ (rc : Int) := by omega
      have hF3 : (rc : Int) + (0 : Int) ≤ 100000 := by omega
      have hsub : rc + 0 - rc = 0 := by omega
      clear hRn hxa hxn hxc hx2 hx3 hx4 hx5 hf2 hB4 q3 q4 heq
      simp only [if_true, Nat.sub_self] at hcl2
      go_wp2_with fail
      refine hcl2.mono ?_
      rintro e w5 ⟨a5, c5, rfl, ho5, hB5⟩
      have hr5 := hidden (owns_low ho5 hBy.out.size)
      replace hBy : Hid (Below w.heap.size w w5) := hBy.out.trans (hB5.mono hBy.out.size)
      clear ho5 hB5 hcl2
      go_wp2
      go_ret
      exact ⟨a5, c5, by rw [hS2.out]; first | done | rfl, by rw [hS2.out]; exact hr5.out, hBy.out⟩
    · rw [if_neg hcl] at hf2
      go_wp2_with fail
      refine hf2.mono ?_
      rintro e w4 ⟨F2, rfl, hF2, q3, q4, hB4⟩
      rw [List.length_drop] at hF2
      replace hS := hidden (hS.out.below hB4)
      replace hBy : Hid (Below w.heap.size w w4) := hBy.out.trans (hB4.mono hBy.out.size)
      have heq : Hid ((R.take (F1 + F2)).drop F1 = X) := hidden (by
        rw [← hst2.out]
        refine cut_lb F1 (F1 + F2) (by omega) (by omega) (fun t ht => by have := q1.out t ht; omega) (fun t ht1 ht2 => ?_) (fun t ht1 ht2 => ?_)
        · have h5 := q3 (t - F1) (by omega)
          have h6 := q2.out t ht1 (by omega)
          rw [show (R.drop F1).getD (t - F1) Ar.none = R.getD t Ar.none by simp only [List.getD, List.getElem?_drop]; rw [show F1 + (t - F1) = t by omega]] at h5
          omega
        · have h5 := q4 (t - F1) (by omega) (by rw [List.length_drop]; omega)
          rw [show (R.drop F1).getD (t - F1) Ar.none = R.getD t Ar.none by simp only [List.getD, List.getElem?_drop]; rw [show F1 + (t - F1) = t by omega]] at h5
          omega)
      have hcut := hS.out.cutR (lo := F1) (hi := F1 + F2) (by omega) (by omega)
      rw [heq.out] at hcut
      have hXl : Hid (X.length = F2) := hidden (by rw [← heq.out, List.length_drop, List.length_take]; omega)
      obtain ⟨xa, xc, hx1, hx2, hx3, hx4, hx5⟩ := hcut
      simp only [Value.slice.injEq] at hx1
      obtain ⟨hxa, hxn, hxc⟩ := hx1
      have hcl2 := aclone_c xa xc X w4 hx5 (by rw [hXl.out]; omega) hx3
      rw [← hxa, ← hxc, hXl.out] at hcl2
      have hRn : (arR.n : Nat) = 4 := rfl
      rw [hRn] at hcl2
      have hS2 : Hid (SL = F2) := hidden (by rw [← hSl.out, hXl.out])
      have hF2i : (F1 : Int) + (F2 : Int) ≤ (R.length : Int) := by omega
      have hF2c : (F1 : Int) + (F2 : Int) ≤ (rc : Int) := by omega
      have hF3 : (F1 : Int) + (F2 : Int) ≤ 100000 := by omega
      have hsub : F1 + F2 - F1 = F2 := by omega
      clear hRn hxa hxn hxc hx2 hx3 hx4 hx5 hf2 hB4 q3 q4 heq
      first | rw [if_neg hcl] at hcl2 | simp only [hcl, if_false] at hcl2
      go_wp2_with fail
      refine hcl2.mono ?_
      rintro e w5 ⟨a5, c5, rfl, ho5, hB5⟩
      have hr5 := hidden (owns_low ho5 hBy.out.size)
      replace hBy : Hid (Below w.heap.size w w5) := hBy.out.trans (hB5.mono hBy.out.size)
      clear ho5 hB5 hcl2
      go_wp2
      go_ret
      exact ⟨a5, c5, by rw [hS2.out]; first | done | rfl, by rw [hS2.out]; exact hr5.out, hBy.out⟩
/-- The same, as a row that is somewhere. -/
theorem step_c (g : Gr) (C : CsX) (B : Nat) (n : Int) (s : ByteArray) (back : Bool) (w : World) (hC : CsrAt g C B w) (hok : (checkG g).2 = 0) (hg : GoodC g C) :
    Calls Tryz.prog 30 #[.pointer (some ⟨C.b, 0, none⟩), .int .i64 n, .agg #[.string s, .bool back]] w fun e w' => ∃ a' c', e = .returned (.slice a' (stepI g C back n s).length c') ∧ RowAt w' a' (arR.flat ((stepI g C back n s).map (arcOf C.L g.es back))) ∧ Below w.heap.size w w' :=
  (step_own g C B n s back w hC hok hg).mono fun _ _ ⟨a, c, he, ho, hB⟩ => by
    obtain ⟨a', c', h1, h2⟩ := holdsR_of_owns (R := arR) (ps := (stepI g C back n s).map (arcOf C.L g.es back)) (by rw [List.length_map]; exact ho)
    simp only [Value.slice.injEq] at h1
    obtain ⟨rfl, _, _⟩ := h1
    exact ⟨a, c, he, h2, hB⟩
end Go.Proofs.YtfkcopokeofjoaaGreat
