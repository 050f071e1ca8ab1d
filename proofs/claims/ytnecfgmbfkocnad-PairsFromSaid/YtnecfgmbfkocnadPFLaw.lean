/-
  PairsFrom's OWN LAW: two rows of links being built.
-/
import Derived.Test.YtnecfgmbfkocnadLinkM
import Derived.Test.YtnecfgmbfkocnadLinkS
import Derived.Maps.AppendAt
import Derived.Deep.RegionHeld3
import Derived.Deep.AppendLies
namespace Go.Proofs.Ytnecfgmbfkocnad
open Go.ChangeShapes Go.WideShapes Go.ChangeAt Go.RowKit

theorem own_shape {w : World} {B t s n : Nat} {v : Value} {xs : List Value} (h : w.ownsRow B t s v n xs) : ∃ a c, v = .slice a n c := by
  rcases h.2 with ⟨rfl, h0⟩ | ⟨g, cap, cur, rfl, _⟩
  · exact ⟨none, 0, by rw [h0]⟩
  · exact ⟨_, _, rfl⟩
theorem own_other {w w' : World} {B t s n : Nat} {v : Value} {xs : List Value} {o : Option Nat} (h : w.ownsRow B t s v n xs) (hg : w.grownBy w' o) (hne : ∀ g, v.ownBlock = some g → o ≠ some g) : w'.ownsRow B t s v n xs := by
  obtain ⟨hl, h⟩ := h
  refine ⟨hl, ?_⟩
  rcases h with h | ⟨g, cap, cur, e1, e2, e3, e4⟩
  · exact .inl h
  · exact .inr ⟨g, cap, cur, e1, e2, (hg.block g (Array.getElem?_eq_some_iff.1 e3).1 (Ne.symm (hne g (by rw [e1]; rfl)))).trans e3, e4⟩
theorem step_wp {P : Program} {ops : Array Oper} {o : Oper} {a : Act} {w : World} {K : Act → World → Prop} {Q : Exit → Act → World → Prop} {E : Prop} (hg : o.guard = none) (h : o.wp P a w K Q) : if Region.wanted o (yielded ops a.tmps) = true then Oper.wp P o a w K Q else E := by
  have hw : Region.wanted o (yielded ops a.tmps) = true := by simp [Region.wanted, hg]
  rw [if_pos hw]
  exact h
theorem wp_call {P : Program} {Q : Exit → Act → World → Prop} {o : Oper} {a : Act} {w : World} {K : Act → World → Prop} {f : FuncId} {args : Array Operand} {ats : Array TypeId} {vs : Array Value} (hop : o.op = .call { callee := .value (.func f), args := args, argTypes := ats }) (hE : ∀ args w, (callFunc f args).run P w = .ok (.enter f args) w) (hv : args.map a.eval = vs)
    (h : Calls P f vs w fun e w' => ∃ v, e = .returned v ∧ K (a.put o.dst v) w') : o.wp P a w K Q := by
  have e : execOp a.eval o = callFunc f (#[] ++ args.map a.eval ++ #[]) := by
    cases o
    cases hop
    rfl
  unfold Oper.wp
  rw [e, hE, hv]
  simp only [Array.empty_append, Array.append_empty]
  exact h.mono fun e w' ⟨v, he, hk⟩ => by subst he; exact hk
theorem step_append_own_at {P : Program} {ops : Array Oper} {o : Oper} {a : Act} {w : World} {K : Act → World → Prop} {Q : Exit → Act → World → Prop} {E : Prop}
    (hg : o.guard = none) (s x : Operand) (t : TypeId) (hop : o.op = Op.call { callee := Callee.builtin Builtin.append, args := #[s, x], argTypes := #[t, t] })
    (base : Nat) (e : TypeId) (i : TypeInfo) (z : Value) (size bytes : Nat) (h1 : P.underlying t = some (.slice e)) (h2 : P.info? e = some i) (h3 : i.zero = some z) (h4 : i.size = size) (h5 : i.bytes = bytes) (h6 : z.cells.size = size) (h7 : 0 < size)
    (v : Value) (n : Nat) (xs : List Value) (hs : a.eval s = v) (hown : w.ownsRow base e size v n xs)
    (ad : Addr) (m c : Nat) (news : List Value) (hx : a.eval x = .slice (some ad) m c) (hn : news.length = m * size) (hc : ∀ j u, news[j]? = some u → w.cell? (ad.add j) = some u) (h1c : ∀ u ∈ news, u.oneCell' = true)
    (b1 : n + m ≤ maxLen) (b2 : (n + m) * bytes ≤ 140737488355328) (hbase : base ≤ w.heap.size)
    (hK : ∀ v' w', w'.ownsRow base e size v' (n + m) (xs ++ news) → w.grownBy w' v.ownBlock → (v'.ownBlock = v.ownBlock ∨ v'.ownBlock = some w.heap.size) → K (a.put o.dst v') w') :
    if Region.wanted o (yielded ops a.tmps) = true then Oper.wp P o a w K Q else E := by
  refine step_wp hg ?_
  obtain ⟨v', w', hr, r2, r3, _, r5⟩ := run_append_own_at (P := P) w base t o.type e i z size bytes h1 h2 h3 h4 h5 h6 h7 v n xs hown ad m c news hn hc h1c b1 b2 hbase
  unfold Oper.wp execOp
  simp only [hop, resolve, invoke, builtin, Sem.run_bind, Sem.run_pure, Result.andThen_ok, List.map_toArray, List.map_cons, List.map_nil, hs, hx, hr]
  exact hK _ _ r2 r3 r5
/-- The two rows, being built. -/
structure PF (wv av : Value) (W A : List Lk) (w x : World) : Prop where
  below : Below w.heap.size w x
  rw : x.ownsRow w.heap.size 28 4 wv W.length (linkR.flat W)
  ra : x.ownsRow w.heap.size 28 4 av A.length (linkR.flat A)
  ne : ∀ g, wv.ownBlock = some g → av.ownBlock ≠ some g
theorem PF.step {wv av : Value} {W A : List Lk} {w x z : World} (h : PF wv av W A w x) (hB : Below x.heap.size x z) : PF wv av W A w z :=
  ⟨h.below.trans (hB.mono h.below.size), owns_keep h.rw hB, owns_keep h.ra hB, h.ne⟩
theorem PF.wants {wv av v' : Value} {W A N : List Lk} {w x z : World} (h : PF wv av W A w x) (ho : z.ownsRow w.heap.size 28 4 v' (W.length + N.length) (linkR.flat W ++ linkR.flat N)) (hg : x.grownBy z wv.ownBlock) (hat : v'.ownBlock = wv.ownBlock ∨ v'.ownBlock = some x.heap.size) : PF v' av (W ++ N) A w z := by
  refine ⟨h.below.grown hg h.below.size (fun j hj => (h.rw.lt j hj).1), by rw [List.length_append, Rec.flat_app]; exact ho, own_other h.ra hg (fun g hag hw => h.ne g hw hag), fun g hg' ha => ?_⟩
  rcases hat with e | e
  · exact h.ne g (e ▸ hg') ha
  · rw [e] at hg'
    cases hg'
    exact absurd (h.ra.lt _ ha).2 (Nat.lt_irrefl _)
theorem PF.alls {wv av v' : Value} {W A N : List Lk} {w x z : World} (h : PF wv av W A w x) (ho : z.ownsRow w.heap.size 28 4 v' (A.length + N.length) (linkR.flat A ++ linkR.flat N)) (hg : x.grownBy z av.ownBlock) (hat : v'.ownBlock = av.ownBlock ∨ v'.ownBlock = some x.heap.size) : PF wv v' W (A ++ N) w z := by
  refine ⟨h.below.grown hg h.below.size (fun j hj => (h.ra.lt j hj).1), own_other h.rw hg (fun g hwg ha => h.ne g hwg ha), by rw [List.length_append, Rec.flat_app]; exact ho, fun g hg' ha => ?_⟩
  rcases hat with e | e
  · exact h.ne g hg' (e ▸ ha)
  · rw [e] at ha
    cases ha
    exact absurd (h.rw.lt _ hg').2 (Nat.lt_irrefl _)
/-- The ends lie beside them. -/
structure EndsAt (g : Nat) (E : List Int) (av : Value) (x : World) : Prop where
  lt : g < x.heap.size
  cells : ∀ j (_ : j < E.length), x.cell? ⟨g, j, none⟩ = some (.int .i64 (E.getD j 0))
  ne : av.ownBlock ≠ some g
theorem EndsAt.step {g : Nat} {E : List Int} {av : Value} {x z : World} (h : EndsAt g E av x) (hB : Below x.heap.size x z) : EndsAt g E av z :=
  ⟨Nat.lt_of_lt_of_le h.lt hB.size, fun j hj => (hB.cell (by exact h.lt)).trans (h.cells j hj), h.ne⟩
theorem EndsAt.grown {g : Nat} {E : List Int} {av v' : Value} {x z : World} (h : EndsAt g E av x) (hg : x.grownBy z av.ownBlock) (hat : v'.ownBlock = av.ownBlock ∨ v'.ownBlock = some x.heap.size) : EndsAt g E v' z := by
  have hb := hg.block g h.lt (Ne.symm h.ne)
  refine ⟨Nat.lt_of_lt_of_le h.lt hg.size, fun j hj => ?_, fun e => ?_⟩
  · rw [← h.cells j hj]
    simp only [World.cell?, hb]
  · rcases hat with e2 | e2
    · exact h.ne (e2 ▸ e)
    · rw [e2] at e
      cases e
      exact absurd h.lt (Nat.lt_irrefl _)
theorem holdsR_some {w : World} {a : Option Addr} {n c : Nat} {ps : List Lk} (h : HoldsR linkR w (.slice a n c) ps) (hne : ps ≠ []) : n = ps.length ∧ ∃ b off, a = some ⟨b, off, none⟩ ∧ ∀ j u, (linkR.flat ps)[j]? = some u → w.cell? ((⟨b, off, none⟩ : Addr).add j) = some u := by
  obtain ⟨a', c', h1, h2⟩ := h
  simp only [Value.slice.injEq] at h1
  obtain ⟨rfl, rfl, rfl⟩ := h1
  refine ⟨rfl, ?_⟩
  rcases h2 with h0 | ⟨b, off, rfl, _, h3⟩
  · have := congrArg List.length h0
    rw [Rec.flat_len] at this
    have h4 : ps.length * 4 = 0 := this
    exact absurd (List.eq_nil_of_length_eq_zero (by omega)) hne
  · exact ⟨b, off, rfl, fun j u hj => by rw [add_plain]; exact h3 j u hj⟩
theorem EndsAt.of_row {g : Nat} {E : List Int} {av : Value} {x : World} (h : RowAt x (some ⟨g, 0, none⟩) (E.map (Value.int .i64))) (hl : g < x.heap.size) (hne : av.ownBlock ≠ some g) : EndsAt g E av x := by
  refine ⟨hl, fun j hj => ?_, hne⟩
  rcases h with h0 | ⟨b, off, h1, _, h3⟩
  · have := congrArg List.length h0
    rw [List.length_map, List.length_nil] at this
    omega
  · cases h1
    have := h3 j (.int .i64 (E.getD j 0)) (by simp [List.getD, hj])
    rwa [Nat.zero_add] at this
theorem from_next (ls : List Lk) (n : Int) (k : Nat) (hk : k < ls.length) : fromL (ls.take (k + 1)) n = fromL (ls.take k) n ++ if (ls.getD k Lk.none).a = n then [ls.getD k Lk.none] else [] := by
  rw [take_snocR ls Lk.none k hk]
  unfold fromL
  rw [List.filter_append]
  generalize ls.getD k Lk.none = p
  congr 1
  by_cases h : p.a = n <;> simp [h]
theorem all_next2 (E : List Int) (f : Int → List Lk) (k : Nat) (hk : k < E.length) : (E.take (k + 1)).flatMap f = (E.take k).flatMap f ++ f (E.getD k 0) ∧ ((E.take k).flatMap f).length + (f (E.getD k 0)).length ≤ (E.flatMap f).length := by
  have e : (E.take (k + 1)).flatMap f = (E.take k).flatMap f ++ f (E.getD k 0) := by
    rw [take_snocR E 0 k hk, List.flatMap_append]
    simp
  refine ⟨e, ?_⟩
  rw [← List.length_append, ← e]
  conv => rhs; rw [← List.take_append_drop (k + 1) E, List.flatMap_append, List.length_append]
  omega
theorem ends_len (zs : List Int) (h : zs.length ≤ 25) : (endsOf zs).length ≤ 25 := by
  have := Lib.compact_length_le (zs.mergeSort fun x y => decide (x ≤ y))
  rw [List.length_mergeSort] at this
  show (Lib.compact _).length ≤ _
  omega
theorem pf_start (w : World) (t : TypeId) (ht : t = 28) : PF (.slice (some ⟨w.heap.size, 0, none⟩) 0 0) (.slice (some ⟨w.heap.size + 1, 0, none⟩) 0 0) [] [] w ((w.alloc (.cells #[] t)).alloc (.cells #[] t)) := by
  subst ht
  have e : (w.alloc (.cells #[] 28)).heap.size = w.heap.size + 1 := by show (w.heap.push _).size = _; simp
  refine ⟨((Below.refl _ _).alloc (Nat.le_refl _) _).alloc (by rw [e]; omega) _, (World.ownsRow_made w #[] 0 (Nat.le_refl _) (by unfold maxLen; omega) rfl).alloc _, ?_, fun g h1 h2 => ?_⟩
  · have h := World.ownsRow_made (base := w.heap.size) (e := 28) (size := 4) (w.alloc (.cells #[] 28)) #[] 0 (by rw [e]; omega) (by unfold maxLen; omega) rfl
    rw [e] at h
    exact h
  · simp only [Value.ownBlock, Option.some.injEq] at h1 h2
    omega
set_option maxHeartbeats 6400000 in
set_option maxRecDepth 100000 in
theorem law_c (v : Value) (n : Int) (ps : List Lk) (w : World) (hv : HoldsR linkR w v ps) (hp : ps.length ≤ maxLen) (hlives : ∀ x, GoX.Calm w x → Calls Try.prog 6 #[] x fun e w' => e = .returned (.bool true) ∧ GoX.Calm x w') :
    Calls Try.prog 3 #[v, .int .i64 n] w fun e w' => e = .returned (.bool true) ∧ GoX.Calm w w' := by
  have hfew := lfew_c v ps w hv (by unfold maxLen at hp; omega)
  obtain ⟨i0, hi, hz0, hz1, hz2⟩ := info_parts infoL
  obtain ⟨a, cap, rfl, hra⟩ := hv
  replace hra := hidden hra
  replace hlives := hidden hlives
  go_enter Try.func3, Try.ntmps3
  go_wp2_with fail
  refine hfew.mono ?_
  rintro e w1 ⟨fa, fn, fc, rfl, hS1, hB1⟩
  have hlen1 : (fewL ps).length ≤ 25 := fewL_len ps
  have htw := hidden (fewL_twice ps)
  have hS1 : SlR linkR w1 (.slice fa fn fc) (fewL ps) := hS1
  generalize fewL ps = ls at *
  have hn1 : fn = ls.length := by
    obtain ⟨_, _, h, _⟩ := hS1
    simp only [Value.slice.injEq] at h
    exact h.2.1
  subst hn1
  have hgood := lgood_c _ ls w1 hS1.holds (by omega)
  have hf2 : Hid (∀ x, Below w1.heap.size w1 x → Calls Try.prog 4 #[.slice fa ls.length fc] x fun e w' => ∃ a n c, e = .returned (.slice a n c) ∧ SlR linkR w' (.slice a n c) ls ∧ Below x.heap.size x w') := fun x hB => by
    have h := lfew_c (.slice fa ls.length fc) ls x (hS1.below hB).holds (by omega)
    rw [show (ls.take 25).map Lk.low = ls from htw.out] at h
    exact h
  replace hS1 := hidden hS1
  replace hB1 := hidden hB1
  clear hfew
  go_wp2_with fail
  refine hgood.mono ?_
  rintro e w2 ⟨⟨gb, rfl, hgb⟩, hB2⟩
  replace hB2 := hidden hB2
  cases gb with
  | false =>
    have hL := hlives.out w2 ((GoX.Calm.of_below hB1.out).trans (GoX.Calm.of_below hB2.out))
    have hC := hidden ((GoX.Calm.of_below hB1.out).trans (GoX.Calm.of_below hB2.out))
    clear hgb hgood
    go_wp2_with fail
    refine hL.mono ?_
    rintro e w3 ⟨rfl, hC3⟩
    have hCC := hidden (hC.out.trans hC3)
    clear hL hC hC3
    go_wp2
    go_ret
    exact ⟨rfl, hCC.out⟩
  | true =>
    have hR := hidden (rises_of_good (hgb rfl))
    have hP0 := hidden (pf_start w2 _ rfl)
    have hrow : Hid (RowAt w2 fa (linkR.flat ls)) := by
      obtain ⟨a', c', h1, _, _, _, h2⟩ := hS1.out.below hB2.out
      simp only [Value.slice.injEq] at h1
      obtain ⟨rfl, _, rfl⟩ := h1
      exact h2
    clear hgb hgood hra
    go_wp2
    go_loopw [5, 7] (fun u5 i wr => ∃ k : Nat, k ≤ ls.length ∧ i = .int .i64 k ∧ Hid (PF u5 (.slice (some ⟨w2.heap.size + 1, 0, none⟩) 0 0) (fromL (ls.take k) n) [] w2 wr))
      (fun _ i _ => ls.length - (intOf i).toNat)
    case atStart => exact ⟨0, Nat.zero_le _, rfl, hP0⟩
    case round =>
      clear hP0
      obtain ⟨k, hk, rfl, hl⟩ := hrel
      obtain ⟨a5, c5, rfl⟩ := own_shape hl.out.rw
      by_cases hlt : k < ls.length
      · obtain ⟨b, off, rfl, hb, x0, x1, x2, x3⟩ := link_at (hrow.out.below hl.out.below) hlt
        have hnext := hidden (from_next ls n k hlt)
        have hcnt : Hid ((fromL (ls.take k) n).length ≤ 25) := by
          show _ ≤ _
          have := List.length_filter_le (fun p : Lk => decide (p.a = n)) (ls.take k)
          rw [List.length_take] at this
          show (List.filter _ _).length ≤ _
          omega
        generalize ls.getD k Lk.none = p at *
        obtain ⟨pa, pb, pc, pn⟩ := p
        simp only at x0 x1 x2 x3 hnext
        by_cases he : pa = n
        · subst he
          simp only [if_true] at hnext
          have hlA := hidden (hl.out.step ((Below.refl _ _).alloc (Nat.le_refl _) (.cells #[.int .i64 pa, .int .i64 pb, .int .i64 pc, .int .u64 pn] 28)))
          clear hl
          go_wp2_with (at_builtin; go_loud (refine wpList_append_own_at _ rfl _ _ 22 rfl w2.heap.size 28 i0 (.agg #[.int .i64 0, .int .i64 0, .int .i64 0, .int .u64 0]) 4 32 Try.underlying22 hi hz0 hz1 hz2 rfl (by decide) _ _ _ rfl hlA.out.rw ⟨wr.heap.size, 0, none⟩ 1 1 [.int .i64 pa, .int .i64 pb, .int .i64 pc, .int .u64 pn] rfl rfl (cells_new _ [_, _, _, _] _) (by intro u hu; simp at hu; rcases hu with rfl | rfl | rfl | rfl <;> rfl) (by have := hcnt.out; unfold maxLen; omega) (by have := hcnt.out; omega) (by have := hlA.out.below.size; simp at *; omega) ?_); intro v' w6 hown6 hgrow6 _ hat6)
          have hl6 := hlA.out.wants (N := [⟨pa, pb, pc, pn⟩]) hown6 hgrow6 hat6
          rw [← hnext.out] at hl6
          replace hl6 := hidden hl6
          obtain ⟨a9, c9, rfl⟩ := own_shape hown6
          clear hown6 hgrow6 hat6 hlA x0 x1 x2 x3 hnext hcnt
          go_wp2
          go_roundw
          case rel => exact ⟨k + 1, by omega, by go_num, hl6⟩
          case measure => simp [intOf]; omega
        · simp only [he, if_false, List.append_nil] at hnext
          have hl6 : Hid (PF (.slice a5 (fromL (ls.take k) n).length c5) (.slice (some ⟨w2.heap.size + 1, 0, none⟩) 0 0) (fromL (ls.take (k + 1)) n) [] w2 wr) := by
            show PF _ _ _ _ _ _
            rw [hnext.out]; exact hl.out
          clear hnext hcnt
          go_wp2
          go_roundw
          case rel => exact ⟨k + 1, by omega, by go_num, hl6⟩
          case measure => simp [intOf]; omega
      · obtain rfl : k = ls.length := by omega
        have hl2 := hl.out
        rw [List.take_of_length_le (Nat.le_refl _)] at hl2
        have hW : (.slice a5 (fromL (ls.take ls.length) n).length c5 : Value) = .slice a5 (fromL ls n).length c5 := by rw [List.take_of_length_le (Nat.le_refl _)]
        simp only [List.take_length] at hl2 ⊢
        replace hl2 := hidden hl2
        have hfa := hf2.out wr (hB2.out.trans (hl2.out.below.mono hB2.out.size))
        clear hl hW
        go_wp2_with fail
        refine hfa.mono ?_
        rintro e y1 ⟨ga, gn, gc, rfl, hSy, hBy⟩
        have hl3 := hidden (hl2.out.step hBy)
        have hen := lends_c _ ls y1 hSy.holds (by omega)
        clear hfa hBy hSy hl2
        go_wp2_with fail
        refine hen.mono ?_
        rintro e y2 ⟨c8, rfl, hrE, hlE, hBE⟩
        have hl4 := hidden (hl3.out.step hBE)
        have hE4 := hidden (EndsAt.of_row (av := .slice (some ⟨w2.heap.size + 1, 0, none⟩) 0 0) hrE hlE (fun h => by have := (hl3.out.ra.lt _ h).2; omega))
        have hall := hidden (ends_all hR.out)
        have hsome := hidden (fun e (h : e ∈ endsOf (ls.map Lk.a)) => from_some h)
        have hElen : (endsOf (ls.map Lk.a)).length ≤ 25 := ends_len _ (by simpa using hlen1)
        generalize endsOf (ls.map Lk.a) = E at *
        generalize y1.heap.size = g at *
        clear hen hrE hlE hBE hl3
        go_wp2
        go_loopw [6, 9] (fun u6 i wr => ∃ (k : Nat) (A : List Lk), k ≤ E.length ∧ i = .int .i64 k ∧ Hid (A = (E.take k).flatMap (fromL ls)) ∧ Hid (PF (.slice a5 (fromL ls n).length c5) u6 (fromL ls n) A w2 wr) ∧ Hid (EndsAt g E u6 wr))
          (fun _ i _ => E.length - (intOf i).toNat)
        case atStart => exact ⟨0, [], Nat.zero_le _, rfl, rfl, hl4, hE4⟩
        case round =>
          clear hl4 hE4
          obtain ⟨k, A, hk, rfl, hA, hl, hE⟩ := hrel
          obtain ⟨a6, c6, rfl⟩ := own_shape hl.out.ra
          by_cases hlt2 : k < E.length
          · have hcell := hE.out.cells k hlt2
            obtain ⟨hnx1, hnx2⟩ := all_next2 E (fromL ls) k hlt2
            rw [hall.out, ← hA.out] at hnx2
            rw [← hA.out] at hnx1
            have hne := hsome.out (E.getD k 0) (by rw [show E.getD k 0 = E[k] by simp [List.getD, hlt2]]; exact List.getElem_mem _)
            replace hnx1 := hidden hnx1
            replace hnx2 := hidden hnx2
            replace hne := hidden hne
            generalize hge : E.getD k 0 = en at *
            replace hge := hidden hge
            have hBwr := hidden (hB2.out.trans (hl.out.below.mono hB2.out.size))
            have hfa := hf2.out wr.drew hBwr.out.drew
            have hlD := hidden (hl.out.step (Below.refl _ _).drew)
            have hED := hidden (hE.out.step (Below.refl _ _).drew)
            have hfrom := hidden (fun v z (h : SlR linkR z v ls) => from_c v en ls z h (by omega) hR.out)
            have hj1 : (k : Int) < (E.length : Int) := by omega
            go_wp2_with fail
            go_region_law (first
              | (refine step_wp (by rfl) (wp_call (vs := #[.slice fa ls.length fc]) (by rfl) (fun _ _ => rfl) (by simp only [List.map_toArray, List.map_cons, List.map_nil] <;> rfl) (hfa.mono ?_)); rintro e z1 ⟨ga1, gn1, gc1, rfl, hSz, hBz⟩; refine ⟨_, rfl, ?_⟩
                 have hl1 := hidden (hlD.out.step hBz)
                 have hE1 := hidden (hED.out.step hBz)
                 have d1 := hE1.out.cells k hlt2
                 rw [hge.out] at d1
                 have hfr := hfrom.out _ z1 hSz)
              | (refine step_wp (by rfl) (wp_call (vs := #[.slice ga1 gn1 gc1, .int .i64 en]) (by rfl) (fun _ _ => rfl) (by simp only [List.map_toArray, List.map_cons, List.map_nil] <;> rfl) (hfr.mono ?_)); rintro e z2 ⟨a', n', c', rfl, hH, hB⟩; refine ⟨_, rfl, ?_⟩
                 have hl2 := hidden (hl1.out.step hB)
                 have hE2 := hidden (hE1.out.step hB)
                 obtain ⟨rfl, b', o', rfl, hcs⟩ := holdsR_some hH hne.out)
              | (refine step_append_own_at (by rfl) _ _ _ (by rfl) w2.heap.size 28 i0 (.agg #[.int .i64 0, .int .i64 0, .int .i64 0, .int .u64 0]) 4 32 Try.underlying22 hi hz0 hz1 hz2 rfl (by decide) _ _ _ (by rfl) hl2.out.ra ⟨b', o', none⟩ (fromL ls en).length c' (linkR.flat (fromL ls en)) (by rfl) (Rec.flat_len _) hcs (Rec.flat_one_cell _) (by have := hnx2.out; unfold maxLen; omega) (by have := hnx2.out; omega) hl2.out.below.size ?_; intro v' w6 hown6 hgrow6 hat6; obtain ⟨a9, c9, rfl⟩ := own_shape hown6)
              | fail)
            all_goals
              have hl3 := hidden (hl2.out.alls hown6 hgrow6 hat6)
              have hE3 := hidden (hE2.out.grown hgrow6 hat6)
              have hA3 := hidden hnx1.out.symm
              clear hown6 hgrow6 hat6 hcs hH hB hl2 hE2 hfr d1 hl1 hE1 hSz hBz hfa hlD hED hcell hnx1 hnx2 hne hA hl hE hBwr hfrom
              go_wp2
              go_roundw
              case rel => exact ⟨k + 1, A ++ fromL ls en, by omega, by go_num, hA3, hl3, hE3⟩
              case measure => simp [intOf]; omega
          · obtain rfl : k = E.length := by omega
            have hAl : A = ls := by rw [hA.out, List.take_length, hall.out]
            subst hAl
            have hfa := hf2.out wr (hB2.out.trans (hl.out.below.mono hB2.out.size))
            clear hA hE hlt2
            go_wp2_with fail
            refine hfa.mono ?_
            rintro e z1 ⟨ga1, gn1, gc1, rfl, hSz, hBz⟩
            have hl1 := hidden (hl.out.step hBz)
            have hfr := from_c _ n _ z1 hSz (by omega) hR.out
            clear hfa hBz hSz hl
            go_wp2_with fail
            refine hfr.mono ?_
            rintro e z2 ⟨a', n', c', rfl, hH, hB⟩
            have hl2 := hidden (hl1.out.step hB)
            have hlen2 : (fromL A n).length ≤ 25 := by
              have := List.length_filter_le (fun p : Lk => decide (p.a = n)) A
              show (List.filter _ _).length ≤ _
              omega
            have hsm := lsame_c _ _ (fromL A n) z2 hH (holdsR_of_owns hl2.out.rw) (by omega)
            clear hfr hB hl1 hH
            go_wp2_with fail
            refine hsm.mono ?_
            rintro e z3 ⟨rfl, hB3⟩
            have hl3 := hidden (hl2.out.step hB3)
            have hS3 : HoldsR linkR z3 (.slice fa A.length fc) A := (hS1.out.below (hB2.out.trans (hl3.out.below.mono hB2.out.size))).holds
            have hsm2 := lsame_c _ _ A z3 (holdsR_of_owns hl3.out.ra) hS3 (by omega)
            clear hsm hB3 hl2 hS3
            go_wp2_with fail
            refine hsm2.mono ?_
            rintro e z4 ⟨rfl, hB4⟩
            have hl4 := hidden (hl3.out.step hB4)
            have hC := hidden ((GoX.Calm.of_below hB1.out).trans (GoX.Calm.of_below (hB2.out.trans (hl4.out.below.mono hB2.out.size))))
            have hL := hlives.out z4 hC.out
            clear hsm2 hB4 hl3 hl4
            go_wp2_with fail
            refine hL.mono ?_
            rintro e z5 ⟨rfl, hC5⟩
            have hCC := hidden (hC.out.trans hC5)
            clear hL hC hC5
            go_wp2
            go_ret
            exact ⟨rfl, hCC.out⟩
end Go.Proofs.Ytnecfgmbfkocnad
