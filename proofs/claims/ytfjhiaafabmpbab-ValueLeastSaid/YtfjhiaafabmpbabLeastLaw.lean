/-
  WHICH OF ANY VALUES IS THE LEAST ONE: the law's own walk.
-/
import Derived.Test.YtfjhiaafabmpbabLeastN
import Derived.Test.YtfjhiaafabmpbabVFew
import Derived.Test.YtfjhiaafabmpbabVRCmp
import Derived.Test.YtfjhiaafabmpbabKeepsC
namespace Go.Proofs.Ytfjhiaafabmpbab
open Go.ChangeShapes Go.WideShapes Go.ChangeAt Go.RowKit

theorem cell_three_new (w : World) (a b c : Value) (t : TypeId) : ∀ j u, [a, b, c][j]? = some u → (w.alloc (.cells #[a, b, c] t)).cell? ((⟨w.heap.size, 0, none⟩ : Addr).add j) = some u := by
  intro j u hj
  have hh : (w.alloc (.cells #[a, b, c] t)).heap[w.heap.size]? = some (.cells #[a, b, c] t) := heap_alloc_new _ _
  obtain ⟨⟨h0, h1, h2⟩, -⟩ := box_facts hh
  rw [add_plain, Nat.zero_add]
  match j, hj with
  | 0, hj => rw [h0]; exact hj
  | 1, hj => rw [h1]; exact hj
  | 2, hj => rw [h2]; exact hj
theorem owns_below {w w' : World} {base : Nat} {e : TypeId} {size : Nat} {v : Value} {n : Nat} {xs : List Value} (h : w.ownsRow base e size v n xs) (hB : Below w.heap.size w w') : w'.ownsRow base e size v n xs := by
  obtain ⟨hl, h⟩ := h
  refine ⟨hl, ?_⟩
  rcases h with h | ⟨g, cap, cur, e1, hg, hcell, r⟩
  · exact .inl h
  · exact .inr ⟨g, cap, cur, e1, hg, (hB.block g (Array.getElem?_eq_some_iff.1 hcell).1).trans hcell, r⟩
theorem hidden {p : Prop} (h : p) : Hid p := h
def fewV (p : V) : V := ⟨p.k, p.n, cutB p.s 120⟩
theorem infoV : (Try.prog.info? 24).map (fun i => (i.zero, i.size, i.bytes)) = some (some (.agg #[.int .i64 0, .int .i64 0, .string ⟨#[]⟩]), 3, 32) := by kernel_rfl
def sixV (b o o' : Nat) (p q : V) : List (Addr × Value) := [(⟨b, o, none⟩, .int .i64 p.k), (⟨b, o + 1, none⟩, .int .i64 p.n), (⟨b, o + 2, none⟩, .string p.s), (⟨b, o', none⟩, .int .i64 q.k), (⟨b, o' + 1, none⟩, .int .i64 q.n), (⟨b, o' + 2, none⟩, .string q.s)]
def boxAnd (c b o : Nat) (q : V) : List (Addr × Value) := [(⟨c, 0, none⟩, .int .i64 q.k), (⟨c, 1, none⟩, .int .i64 q.n), (⟨c, 2, none⟩, .string q.s), (⟨b, o, none⟩, .int .i64 q.k), (⟨b, o + 1, none⟩, .int .i64 q.n), (⟨b, o + 2, none⟩, .string q.s)]

set_option maxHeartbeats 1600000 in
set_option maxRecDepth 1000000 in
theorem law_c (v : Value) (ps : List V) (w : World) (hv : HoldsV w v ps) (hz : ps.length ≤ maxLen)
    (hlv : ∀ x, Calls Try.prog 6 #[] x fun e w' => e = .returned (.bool true) ∧ GoX.Calm x w') :
    Calls Try.prog 3 #[v] w fun e w' => e = .returned (.bool true) ∧ GoX.Calm w w' := by
  unfold maxLen at hz
  obtain ⟨a, cap, rfl, hrow⟩ := hv
  obtain ⟨i0, hi, hz0, hz1, hz2⟩ := info_parts infoV
  have hL0 := fun v qs w h => least_c v qs w h
  have hL1 := fun v w h => least_none v w h
  have hF := fun k n s w => vfew_c k n s w
  obtain ⟨qf, hqf⟩ : ∃ qf : Nat → List V, Hid (∀ k, (ps.take k).map fewV = qf k) := ⟨fun k => (ps.take k).map fewV, (fun _ => rfl : ∀ _, _ = _)⟩
  have hql : ∀ k, k ≤ ps.length → Hid ((qf k).length = k) := fun k hk => by
    show _ = _
    rw [← hqf.out, List.length_map, List.length_take]; omega
  go_enter Try.func3, Try.ntmps3
  go_wp2_with fail
  go_loopw [3, 4] (fun u i wr => ∃ k : Nat, k ≤ ps.length ∧ k ≤ 10 ∧ i = .int .i64 k ∧ wr.ownsRow w.heap.size 24 3 u k (flatV (qf k)) ∧ Below w.heap.size w wr)
    (fun _ i _ => ps.length - (intOf i).toNat)
  case atStart => exact ⟨0, Nat.zero_le _, Nat.zero_le _, rfl, by rw [← hqf.out]; exact World.ownsRow_made w #[] 0 (Nat.le_refl _) (by unfold maxLen; omega) rfl, (Below.refl _ _).alloc (Nat.le_refl _) _⟩
  case round =>
    obtain ⟨k, hk, hkm, rfl, hown, hnx⟩ := hrel
    by_cases hlt : k < ps.length ∧ k < 10
    · obtain ⟨hk1, hk2⟩ := hlt
      obtain ⟨b, off, rfl, hb, hc0, hc1, hc2⟩ := values_at hrow hk1
      have hx0 := (hnx.cell (p := ⟨b, off + k * 3, none⟩) hb).trans hc0
      have hx1 := (hnx.cell (p := ⟨b, off + k * 3 + 1, none⟩) hb).trans hc1
      have hx2 := (hnx.cell (p := ⟨b, off + k * 3 + 2, none⟩) hb).trans hc2
      have hsz := hnx.size
      have hql0 := hql k (by omega)
      have hts : Hid (qf (k + 1) = qf k ++ [fewV (ps.getD k V.none)]) := by
        show _ = _
        rw [← hqf.out, ← hqf.out, take_snocV ps k hk1, List.map_append]; rfl
      clear hc0 hc1 hc2
      generalize ps.getD k V.none = p at *
      obtain ⟨x, y, s⟩ := p
      simp only at hx0 hx1 hx2
      have hf := fun w => vfew_c x y s w
      have hts : Hid (qf (k + 1) = qf k ++ [⟨x, y, cutB s 120⟩]) := hts
      generalize cutB s 120 = t at *
      have hk3 : (k : Int) < (ps.length : Int) := by omega
      go_wp2_with fail
      refine (hf _).mono ?_
      rintro e w2 ⟨rfl, hB2⟩
      have hs2 := hB2.size
      have hown2 := owns_below hown hB2
      have hBw : Below w.heap.size w w2 := hnx.trans (hB2.mono hsz)
      clear hx0 hx1 hx2 hnx hown hf
      go_wp2_with (at_builtin; refine wpList_append_own _ rfl _ _ 22 rfl w.heap.size 24 i0 (.agg #[.int .i64 0, .int .i64 0, .string ⟨#[]⟩]) 3 32 Try.underlying22 hi hz0 hz1 hz2 rfl (by decide) _ _ _ rfl (hown2.alloc _) ⟨w2.heap.size, 0, none⟩ 1 1 [.int .i64 x, .int .i64 y, .string t] rfl rfl (cell_three_new _ _ _ _ _) ?c2 ?c3 ?c4 ?c5 ?_)
      case c2 => intro u hu; simp at hu; rcases hu with rfl | rfl | rfl <;> rfl
      case c3 => unfold maxLen; omega
      case c4 => omega
      case c5 => simp; omega
      · intro v' w1 hown' hgrow _
        have hB : Below w.heap.size w w1 := (hBw.alloc (by omega) _).grown hgrow (by simp; omega) (fun j hj => by have := (hown2.lt j hj).1; omega)
        clear hgrow hown2 hBw
        go_wp2
        go_roundw
        case rel => exact ⟨k + 1, by omega, by omega, by go_num, by rw [hts.out, flatV_append]; exact hown', hB⟩
        case measure => simp [intOf]; omega
    · have hq0 := hql k (by omega)
      obtain ⟨b, cap', rfl, hro⟩ := holdsV_of_owns (ps := qf k) hown
      have hq0 := hq0.out
      generalize qf k = qs at *
      have hh : HoldsV wr (.slice b qs.length cap') qs := ⟨b, cap', rfl, hro⟩
      have hls : qs.length ≤ 10 := by omega
      clear hown hql hqf hrow hF
      rcases (by omega : ¬ k < ps.length ∨ (k < ps.length ∧ ¬ k < 10)) with hg | ⟨hg1, hg2⟩
      all_goals
        by_cases hne : 0 < qs.length
        · have hcl := hL0 _ qs wr hh hne (by omega)
          generalize hm : qs.getD (bestV qs qs.length) V.none = m at *
          have hm := hidden hm
          clear hL0 hL1
          have hn0 : ((qs.length : Int) == 0) = false := beq_eq_false_iff_ne.2 (by omega)
          clear hq0
          go_wp2_with fail
          refine hcl.mono ?_
          rintro e w2 ⟨rfl, hB2⟩
          clear hcl
          have hat := hidden (bestV_lt qs hne)
          go_wp2_with fail
          have hs2 := hB2.size
          have hs0 := hnx.size
          have hrow2 := hro.below hB2
          have hBx : Below w.heap.size w (w2.alloc (.cells #[.int .i64 m.k, .int .i64 m.n, .string m.s] 24)) := (hnx.trans (hB2.mono hs0)).alloc (by omega) _
          have hbx : (w2.alloc (.cells #[.int .i64 m.k, .int .i64 m.n, .string m.s] 24)).heap[w2.heap.size]? = some (.cells #[.int .i64 m.k, .int .i64 m.n, .string m.s] 24) := heap_alloc_new _ _
          have hrow3 : RowAt (w2.alloc (.cells #[.int .i64 m.k, .int .i64 m.n, .string m.s] 24)) b (flatV qs) := hrow2.below ((Below.refl _ _).alloc (Nat.le_refl _) _)
          generalize w2.alloc (.cells #[.int .i64 m.k, .int .i64 m.n, .string m.s] 24) = w3 at *
          generalize w2.heap.size = bx at *
          clear hrow2 hro hh hB2 hs2 hs0 hnx
          have hbest : ∀ j, Hid (bestV qs (j + 1) = if vcmp (qs.getD j V.none) (qs.getD (bestV qs j) V.none) < 0 then j else bestV qs j) := fun j => (rfl : _ = _)
          go_loopw [7, 8] (fun at_ i wr => ∃ j t : Nat, j ≤ qs.length ∧ at_ = .int .i64 t ∧ i = .int .i64 j ∧ Hid (bestV qs j = t) ∧ Below w3.heap.size w3 wr)
            (fun _ i _ => qs.length - (intOf i).toNat)
          case atStart => exact ⟨0, 0, Nat.zero_le _, rfl, rfl, (rfl : _ = _), Below.refl _ _⟩
          case round =>
            obtain ⟨j, t, hj, rfl, rfl, ht, hB⟩ := hrel
            have htl : t < qs.length := by rw [← ht.out]; exact hat.out j hj
            by_cases hjl : j < qs.length
            · obtain ⟨b', off, rfl, hb, hx0, hx1, hx2⟩ := values_at hrow3 hjl
              obtain ⟨b2, off2, e2, -, hy0, hy1, hy2⟩ := values_at hrow3 htl
              cases e2
              have hn := (hbest j).out
              rw [ht.out] at hn
              generalize qs.getD j V.none = x at *
              generalize qs.getD t V.none = y at *
              have hcall := fun w => rcmp_c x.k x.n y.k y.n x.s y.s w
              obtain ⟨c, hc⟩ : ∃ c, Hid (vcmp x y = c) := ⟨_, (rfl : _ = _)⟩
              have hcall : ∀ w, Calls Try.prog 7 #[.agg #[.int .i64 x.k, .int .i64 x.n, .string x.s], .agg #[.int .i64 y.k, .int .i64 y.n, .string y.s]] w fun e w' => e = .returned (.int .i64 c) ∧ Below w.heap.size w w' := by
                rw [← hc.out]; exact hcall
              rw [hc.out] at hn
              have hn : Hid (bestV qs (j + 1) = if c < 0 then j else t) := hn
              have hk : Keeps w3 (sixV b' (off + j * 3) (off + t * 3) x y) wr.drew := by
                refine Keeps.drew ⟨hB, fun p hp => ?_⟩
                simp only [sixV, List.mem_cons, List.not_mem_nil, or_false] at hp
                rcases hp with rfl | rfl | rfl | rfl | rfl | rfl <;> refine (hB.cell (by exact hb)).trans ?_ <;> assumption
              clear hx0 hx1 hx2 hy0 hy1 hy2 hbest hc hlv hrow3 hbx hBx
              have f0 : ∀ z : In (Keeps w3 (sixV b' (off + j * 3) (off + t * 3) x y)), _ := Keeps.at 0 rfl
              have f1 : ∀ z : In (Keeps w3 (sixV b' (off + j * 3) (off + t * 3) x y)), _ := Keeps.at 1 rfl
              have f2 : ∀ z : In (Keeps w3 (sixV b' (off + j * 3) (off + t * 3) x y)), _ := Keeps.at 2 rfl
              have f3 : ∀ z : In (Keeps w3 (sixV b' (off + j * 3) (off + t * 3) x y)), _ := Keeps.at 3 rfl
              have f4 : ∀ z : In (Keeps w3 (sixV b' (off + j * 3) (off + t * 3) x y)), _ := Keeps.at 4 rfl
              have f5 : ∀ z : In (Keeps w3 (sixV b' (off + j * 3) (off + t * 3) x y)), _ := Keeps.at 5 rfl
              dsimp only at f0 f1 f2 f3 f4 f5
              have hj1 : (j : Int) < (qs.length : Int) := by omega
              have ht1 : (t : Int) < (qs.length : Int) := by omega
              go_wp2_with fail
              refine wp_region_later (Keeps w3 (sixV b' (off + j * 3) (off + t * 3) x y)) (by kernel_rfl) (by kernel_rfl) hk (fun hne => ?_)
              repeat (go_big_quiet_step (exact Keeps.calls hcall _))
              refine wpQuiet_nil ?_
              intro wL hL
              clear f0 f1 f2 f3 f4 f5 hk
              by_cases hc0 : c < 0
              · have hn : Hid (bestV qs (j + 1) = j) := by show _ = _; rw [hn.out, if_pos hc0]
                go_wp2
                go_roundw
                case rel => exact ⟨j + 1, j, by omega, rfl, by go_num, hn, hL.1⟩
                case measure => simp [intOf]; omega
              · have hn : Hid (bestV qs (j + 1) = t) := by show _ = _; rw [hn.out, if_neg hc0]
                go_wp2
                go_roundw
                case rel => exact ⟨j + 1, t, by omega, rfl, by go_num, hn, hL.1⟩
                case measure => simp [intOf]; omega
            · have hjl : ¬ (j : Int) < (qs.length : Int) := by omega
              obtain rfl : j = qs.length := by omega
              obtain ⟨b', off, rfl, hb, hx0, hx1, hx2⟩ := values_at hrow3 htl
              have e := hm.out
              rw [ht.out] at e
              rw [e] at hx0 hx1 hx2
              obtain ⟨⟨g0, g1, g2⟩, -⟩ := box_facts hbx
              have hbz := World.block_lt_of_cell? _ _ g0
              have hk : KeepsC w3 (boxAnd bx b' (off + t * 3) m) wr.drew := by
                refine ⟨GoX.Calm.of_below hB.drew, fun p hp => ?_⟩
                simp only [boxAnd, List.mem_cons, List.not_mem_nil, or_false] at hp
                rcases hp with rfl | rfl | rfl | rfl | rfl | rfl <;> first | (refine (hB.cell (by exact hb)).trans ?_ ; assumption) | (refine (hB.cell (by exact hbz)).trans ?_ ; assumption)
              clear hx0 hx1 hx2 g0 g1 g2 hbest hrow3 hbx e hm hbz
              have f0 : ∀ z : In (KeepsC w3 (boxAnd bx b' (off + t * 3) m)), _ := KeepsC.at 0 rfl
              have f1 : ∀ z : In (KeepsC w3 (boxAnd bx b' (off + t * 3) m)), _ := KeepsC.at 1 rfl
              have f2 : ∀ z : In (KeepsC w3 (boxAnd bx b' (off + t * 3) m)), _ := KeepsC.at 2 rfl
              have f3 : ∀ z : In (KeepsC w3 (boxAnd bx b' (off + t * 3) m)), _ := KeepsC.at 3 rfl
              have f4 : ∀ z : In (KeepsC w3 (boxAnd bx b' (off + t * 3) m)), _ := KeepsC.at 4 rfl
              have f5 : ∀ z : In (KeepsC w3 (boxAnd bx b' (off + t * 3) m)), _ := KeepsC.at 5 rfl
              dsimp only at f0 f1 f2 f3 f4 f5
              have c9 := KeepsC.callsC (F := boxAnd bx b' (off + t * 3) m) (w := w3) fun x _ => hlv x
              have ht1 : (t : Int) < (qs.length : Int) := by omega
              clear hlv ht
              go_wp2_with fail
              refine wp_region_later (KeepsC w3 (boxAnd bx b' (off + t * 3) m)) (by kernel_rfl) (by kernel_rfl) hk (fun hne => ?_)
              repeat (go_big_quiet_step (exact c9 _))
              refine wpQuiet_nil ?_
              intro wL hL
              clear f0 f1 f2 f3 f4 f5 hk c9
              go_wp2
              go_ret
              exact ⟨rfl, (GoX.Calm.of_below hBx).trans hL.1⟩
        · have hcl := hL1 _ wr (by rw [← List.eq_nil_of_length_eq_zero (by omega : qs.length = 0)]; exact hh)
          clear hL0 hL1
          have hn0 : ((qs.length : Int) == 0) = true := beq_iff_eq.2 (by omega)
          clear hq0
          go_wp2_with fail
          refine hcl.mono ?_
          rintro e w2 ⟨rfl, hB2⟩
          clear hcl
          go_wp2_with fail
          refine (hlv _).mono ?_
          rintro e w3 ⟨rfl, hC⟩
          have hBx : Below w.heap.size w (w2.alloc (.cells #[.int .i64 0, .int .i64 0, .string ⟨#[]⟩] 24)) := (hnx.trans (hB2.mono hnx.size)).alloc (Nat.le_trans hnx.size hB2.size) _
          clear hlv
          go_wp2
          go_ret
          exact ⟨rfl, (GoX.Calm.of_below hBx).trans hC⟩
end Go.Proofs.Ytfjhiaafabmpbab
