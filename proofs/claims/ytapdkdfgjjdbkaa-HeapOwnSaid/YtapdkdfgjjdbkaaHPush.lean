/-
  AN ITEM LAID INTO A HEAP: heap.Push, by contract.
-/
import Derived.Test.YtapdkdfgjjdbkaaHApp
import Derived.Test.YtapdkdfgjjdbkaaHRise
namespace Go.Proofs.Ytapdkdfgjjdbkaa
open Go.ChangeShapes Go.WideShapes Go.ChangeAt Go.RowKit

/-- While the item rises: k is its place, in box q. -/
structure Rises (B b g n : Nat) (y : It) (ys : List It) (X q : Nat) (w x : World) (k : Nat) : Prop where
  hx : x.heap[X]? = some (.cells #[.pointer (some ⟨b, 0, none⟩)] 26)
  hq : x.heap[q]? = some (.cells #[.int .i64 k] 3)
  hX : w.heap.size ≤ X
  hqq : w.heap.size ≤ q
  hBw : B ≤ w.heap.size
  lt : k < n + 1
  all : ∃ g' cap' L', HeapL B x b g' cap' L' ∧ L'.length = n + 1 ∧ (L'.map (·.1)).Perm (y :: ys) ∧ UpBut (itF L') (n + 1) k ∧ (g' = g ∨ w.heap.size ≤ g') ∧ ∀ p ∈ L', p.2.ownBlock ≠ some q
  below : Below B w x
  save : Save2 b g w x
theorem own_far {w : World} {B t s n b : Nat} {v : Value} {xs : List Value} (h : w.ownsRow B t s v n xs) (hb : v.ownBlock ≠ some b) (j : Nat) (u : Value) : (w.setCell ⟨b, j, none⟩ u).ownsRow B t s v n xs := by
  obtain ⟨hl, h⟩ := h
  refine ⟨hl, ?_⟩
  rcases h with h | ⟨g, cap, cur, h1, h2, h3, h4⟩
  · exact .inl h
  · refine .inr ⟨g, cap, cur, h1, h2, ?_, h4⟩
    have hne : b ≠ g := fun e => hb (by rw [h1, e]; rfl)
    exact (heap_oI hne).trans h3
theorem Rises.step {B b g n : Nat} {y : It} {ys : List It} {X q : Nat} {w x z : World} {k : Nat} (h : Rises B b g n y ys X q w x k) (hB : Below x.heap.size x z) : Rises B b g n y ys X q w z k := by
  obtain ⟨g', cap', L', hH, h1, h2, h3, h4, h5⟩ := h.all
  exact ⟨box_below h.hx hB, box_below h.hq hB, h.hX, h.hqq, h.hBw, h.lt, ⟨g', cap', L', hH.step hB, h1, h2, h3, h4, h5⟩, h.below.trans (hB.mono (by have := hH.hb; have := (Array.getElem?_eq_some_iff.1 hH.box).1; omega)), h.save.trans (Save2.of_below (b := b) (g := g) hB) (.inl rfl)⟩
theorem Rises.next {B b g n : Nat} {y : It} {ys : List It} {X q : Nat} {w x z : World} {k g' cap' : Nat} {L' : List Pr} (h : Rises B b g n y ys X q w x k) (hH : HeapL B x b g' cap' L') (h1 : L'.length = n + 1) (h2 : (L'.map (·.1)).Perm (y :: ys)) (h3 : UpBut (itF L') (n + 1) k) (h4 : g' = g ∨ w.heap.size ≤ g') (h5 : ∀ p ∈ L', p.2.ownBlock ≠ some q)
    (hz : HeapL B z b g' cap' (swapL L' k ((k - 1) / 2))) (hr : Rest g' x z) (hb : Below B x z) (h0 : 0 < k) (hlt : icmp (itF L' k) (itF L' ((k - 1) / 2)) < 0) : Rises B b g n y ys X q w (z.setCell ⟨q, 0, none⟩ (.int .i64 (((k - 1) / 2 : Nat) : Int))) ((k - 1) / 2) := by
  have hk := h.lt
  obtain ⟨cur, hc⟩ := hH.block
  have hqg : q ≠ g' := ne_types h.hq hc (by decide)
  have hXg : X ≠ g' := ne_types h.hx hc (by decide)
  have hqX : q ≠ X := ne_types h.hq h.hx (by decide)
  have hqb : q ≠ b := ne_types h.hq hH.box (by decide)
  have hzq : z.heap[q]? = some (.cells #[.int .i64 k] 3) := (hr q hqg).trans h.hq
  have hpm := swapL_perm (L := L') (i := k) (j := (k - 1) / 2) (by omega) (by omega)
  refine ⟨(heap_oI hqX).trans ((hr X hXg).trans h.hx), by rw [heap_setI hzq 0 _]; rfl, h.hX, h.hqq, h.hBw, by omega, ⟨g', cap', swapL L' k ((k - 1) / 2), ⟨hz.hb, hz.hg, (heap_oI hqb).trans hz.box, ?_, fun p hp => ?_⟩, by rw [swapL_len]; exact h1, (hpm.map _).trans h2, ?_, h4, fun p hp => h5 p (hpm.mem_iff.1 hp)⟩, ?_, ⟨?_, fun j hj j1 j2 => ?_⟩⟩
  · exact owns_setO hz.row hzq (by decide) 0 _
  · exact own_far (hz.its p hp) (h5 p (hpm.mem_iff.1 hp)) 0 _
  · rw [swapL_at (by omega) (by omega)]
    exact h3.rise h0 hk hlt
  · exact (h.below.trans hb).setCell (p := ⟨q, 0, none⟩) (by have := h.hqq; have := h.hBw; show B ≤ q; omega) _
  · have h8 := hb.size; have := h.save.size
    simpa [World.setCell] using Nat.le_trans this h8
  · rw [heap_oI (show q ≠ j by have := h.hqq; omega)]
    refine (hr j fun e => ?_).trans (h.save.block j hj j1 j2)
    rcases h4 with e4 | e4
    · exact j2 (e.trans e4)
    · omega
def placeOf (x : World) (q : Nat) : Nat := match x.cell? ⟨q, 0, none⟩ with | some (.int _ i) => i.toNat | _ => 0
theorem placeOf_set {x : World} {q : Nat} {k m : Nat} (h : x.heap[q]? = some (.cells #[.int .i64 k] 3)) : placeOf (x.setCell ⟨q, 0, none⟩ (.int .i64 (m : Int))) q = m := by
  have e := (box1 (heap_setI h 0 (.int .i64 (m : Int)))).1
  simp [placeOf, e]
theorem pushed_at {g9 g W Z : Nat} (h : g9 = g ∨ g9 = Z) (hs : W ≤ Z) : g9 = g ∨ W ≤ g9 := by omega
set_option maxHeartbeats 3200000 in
set_option maxRecDepth 100000 in
theorem push_c {B b g cap : Nat} {L : List Pr} (y : It) (nv : Value) (w : World) (h : HeapL B w b g cap L) (hv : Sl w nv (ints y.l)) (hy : y.l.length ≤ 1000) (hn : L.length ≤ 1000) (hl : ∀ p ∈ L, p.1.l.length ≤ 1000) (hu : Up (itF L) L.length) :
    Calls Try.prog 8 #[.pointer (some ⟨b, 0, none⟩), itV y nv] w fun e w' => e = .returned (.tuple #[]) ∧ ∃ g' cap' L', HeapL B w' b g' cap' L' ∧ (L'.map (·.1)).Perm (y :: L.map (·.1)) ∧ Up (itF L') L'.length ∧ (g' = g ∨ w.heap.size ≤ g') ∧ Below B w w' ∧ Save2 b g w w' := by
  obtain ⟨i0, hi, hz0, hz1, hz2⟩ := info_parts infoIt
  obtain ⟨c, l, p, r⟩ := y
  simp only [itV] at hv hy ⊢
  obtain ⟨na, nc, rfl, hcap, hnil, hspot, hrow⟩ := id hv
  replace hv := hiddenI hv
  clear hcap hnil hspot hrow
  obtain ⟨t1, t2, t3⟩ := heap2b w (.cells #[.pointer (some ⟨b, 0, none⟩)] 26) (.cells #[.int .i64 c, .slice na (ints l).length nc, .int .i64 p, .int .i64 r] 24)
  obtain ⟨w2, hw2⟩ : ∃ w2, w2 = (w.alloc (.cells #[.pointer (some ⟨b, 0, none⟩)] 26)).alloc (.cells #[.int .i64 c, .slice na (ints l).length nc, .int .i64 p, .int .i64 r] 24) := ⟨_, rfl⟩
  rw [← hw2] at t1 t2 t3
  have hs2 : w2.heap.size = w.heap.size + 2 := by rw [hw2]; show ((w.heap.push _).push _).size = _; simp
  have hH := h.step t3
  have hcl := own_c ⟨c, l, p, r⟩ (.slice na (ints l).length nc) w2.drew ((hv.out.below t3).below (Below.refl _ _).drew) hy
  simp only [itV] at hcl
  have x0 : w2.cell? ⟨w.heap.size, 0, none⟩ = some (.pointer (some ⟨b, 0, none⟩)) := by simp [World.cell?, t1]
  obtain ⟨⟨m0, m1, m2, m3⟩, -⟩ := box4 t2
  have b0 := hH.cell
  have hcnt : (ints l).length = l.length := by simp [ints]
  generalize (ints l).length = yn at *
  replace hcnt := hiddenI hcnt
  replace hH := hiddenI hH
  have t1d : Hid (w2.drew.heap[w.heap.size]? = some (.cells #[.pointer (some ⟨b, 0, none⟩)] 26)) := t1
  replace t1 := hiddenI t1
  replace t3 := hiddenI t3
  replace hs2 := hiddenI hs2
  replace hw2 := hiddenI hw2
  replace h := hiddenI h
  replace hl := hiddenI hl
  replace hu := hiddenI hu
  clear hv t2
  generalize hN : L.length = n at *
  replace hN := hiddenI hN
  go_enter Try.func8, Try.ntmps8
  go_wp2_with fail
  rw [← hw2.out]
  obtain ⟨R, hR⟩ : ∃ R : Act → World → Prop, Hid (R = fun a' x => ∃ v8 v9 v10 v11 v12 v13 v14 v15 v16 v17 v18 g9 c9 nv9, a' = ({ tmps := #[.pointer (some ⟨b, 0, none⟩), .agg #[.int .i64 c, .slice na yn nc, .int .i64 p, .int .i64 r], .pointer (some ⟨w.heap.size, 0, none⟩), .pointer (some ⟨w.heap.size + 1, 0, none⟩), undef, undef, .pointer (some ⟨b, 0, none⟩), .bool false, v8, v9, v10, v11, v12, v13, v14, v15, v16, v17, v18, undef, undef, undef, undef, undef, undef, undef, undef, undef, undef, undef, undef, undef, undef, undef, undef, undef, undef], defers := [] } : Act) ∧
    HeapL B x b g9 c9 (L ++ [(⟨c, l, p, r⟩, nv9)]) ∧ (g9 = g ∨ w.heap.size ≤ g9) ∧ x.heap[w.heap.size]? = some (.cells #[.pointer (some ⟨b, 0, none⟩)] 26) ∧ Save2 b g w x ∧ Below B w x) := ⟨_, hiddenI rfl⟩
  refine wp_only R ?h ?hq
  case hq =>
    intro a' x hRx
    rw [hR.out] at hRx
    obtain ⟨v8, v9, v10, v11, v12, v13, v14, v15, v16, v17, v18, g9, c9, nv9, rfl, hP, hg9, hX, hsv, hbl⟩ := hRx
    have hBw0 : Hid (B ≤ w.heap.size) := by have := h.out.hb; have := (Array.getElem?_eq_some_iff.1 h.out.box).1; show B ≤ _; omega
    have hyl : Hid (∀ z ∈ (⟨c, l, p, r⟩ : It) :: L.map (·.1), z.l.length ≤ 1000) := fun z hz => by
      rcases List.mem_cons.1 hz with rfl | hz
      · exact hy
      · obtain ⟨q, hq, rfl⟩ := List.mem_map.1 hz
        exact hl.out q hq
    clear hR hcl x0 m0 m1 m2 m3 b0 hH t1 t1d t3 hs2 hw2 h hi hz0 hz1 hz2 hcnt
    have hlen : (L ++ [((⟨c, l, p, r⟩ : It), nv9)]).length = n + 1 := by simp [hN.out]
    have hitl : Hid (∀ q ∈ L ++ [((⟨c, l, p, r⟩ : It), nv9)], q.1.l.length ≤ 1000) := fun q hq => by
      rcases List.mem_append.1 hq with hq | hq
      · exact hl.out q hq
      · obtain rfl := List.mem_singleton.1 hq
        exact hy
    have hperm : Hid (((L ++ [((⟨c, l, p, r⟩ : It), nv9)]).map (·.1)).Perm (⟨c, l, p, r⟩ :: L.map (·.1))) := by
      show List.Perm _ _
      rw [List.map_append]
      exact List.perm_append_comm
    have hub : Hid (UpBut (itF (L ++ [((⟨c, l, p, r⟩ : It), nv9)])) (n + 1) n) := by
      refine UpBut.start fun j h0 h1 => ?_
      have e : ∀ k, k < n → itF (L ++ [((⟨c, l, p, r⟩ : It), nv9)]) k = itF L k := fun k hk => by
        have hk' : k < L.length := by rw [hN.out]; exact hk
        simp [itF, List.getD, List.getElem?_append_left hk']
      rw [e _ h1, e _ (by omega)]
      exact hu.out j h0 h1
    generalize L ++ [((⟨c, l, p, r⟩ : It), nv9)] = L1 at *
    have hcP := hP.cell
    rw [hlen] at hcP
    obtain ⟨hXc, -⟩ := box1 hX
    have hgt : Hid (w.heap.size < x.heap.size) := (Array.getElem?_eq_some_iff.1 hX).1
    obtain ⟨q, hq⟩ : ∃ q, Hid (q = x.heap.size) := ⟨_, hiddenI rfl⟩
    obtain ⟨x1, hx1⟩ : ∃ x1, Hid (x1 = x.alloc (.cells #[.int .i64 (n : Int)] 3)) := ⟨_, hiddenI rfl⟩
    have hBx : Below x.heap.size x x1 := by rw [hx1.out]; exact (Below.refl _ _).alloc (Nat.le_refl _) _
    have hst : Hid (Rises B b g n ⟨c, l, p, r⟩ (L.map (·.1)) w.heap.size q w x1 n) := by
      refine ⟨(hBx.block _ hgt.out).trans hX, by rw [hq.out, hx1.out]; exact heap_alloc_new _ _, Nat.le_refl _, by rw [hq.out]; exact hbl.size, hBw0.out, by omega, ⟨g9, c9, L1, hP.step hBx, hlen, hperm.out, hub.out, hg9, fun p hp e => by have := ((hP.its p hp).lt q e).2; have := hq.out; omega⟩, hbl.trans (hBx.mono (by have := hP.hb; have := (Array.getElem?_eq_some_iff.1 hP.box).1; omega)), hsv.trans (Save2.of_below (b := b) (g := g) hBx) (.inl rfl)⟩
    have hn9 : IntKind.i64.wrap ((n : Int) + 1 - 1) = n := by rw [IntKind.wrap_i64]; omega
    replace hP := hiddenI hP
    replace hX := hiddenI hX
    replace hsv := hiddenI hsv
    replace hbl := hiddenI hbl
    replace hBx := hiddenI hBx
    go_wp2_with fail
    rw [← hx1.out, ← hq.out]
    clear hP hX hsv hbl hBx hx1 hq hcP hXc hperm hub hu hl hitl hgt
    go_loopw [27] (fun _ y => ∃ k, Hid (Rises B b g n ⟨c, l, p, r⟩ (L.map (·.1)) w.heap.size q w y k)) (fun _ y => placeOf y q)
    case atStart => exact ⟨n, hst⟩
    case round =>
      clear hst
      obtain ⟨k, hk⟩ := hrel
      obtain ⟨g', cap', L', hH, hL', hp', hub', hg', hfar⟩ := hk.out.all
      have hkl := hk.out.lt
      have hll : ∀ p ∈ L', p.1.l.length ≤ 1000 := fun p hp => hyl.out _ (hp'.mem_iff.1 (List.mem_map_of_mem hp))
      obtain ⟨hqc, -⟩ := box1 hk.out.hq
      obtain ⟨hXc, -⟩ := box1 hk.out.hx
      have hpl : Hid (placeOf wr q = k) := by show _ = _; simp [placeOf, hqc]
      have hrise := riseH_c wr hH hqc hXc (by omega) (by omega) hll
      have hswp := fun (z : World) (hz : HeapL B z b g' cap' L') (h0 : 0 < k) => hswap_c hz (i := k) (j := (k - 1) / 2) (by omega) (by omega)
      have hdone := hiddenI fun (z : World) (hz : Rises B b g n ⟨c, l, p, r⟩ (L.map (·.1)) w.heap.size q w z k) (hz2 : HeapL B z b g' cap' L') (hd : ¬ (0 < k ∧ icmp (itF L' k) (itF L' ((k - 1) / 2)) < 0)) =>
        (⟨g', cap', L', hz2, hp', by rw [hL']; exact hub'.done fun h0 h1 => hd ⟨h0, h1⟩, hg', hz.below, hz.save⟩ : ∃ g' cap' L', HeapL B z b g' cap' L' ∧ (L'.map (·.1)).Perm (⟨c, l, p, r⟩ :: L.map (·.1)) ∧ Up (itF L') L'.length ∧ (g' = g ∨ w.heap.size ≤ g') ∧ Below B w z ∧ Save2 b g w z)
      have hnext := hiddenI fun (x z : World) (hx : Rises B b g n ⟨c, l, p, r⟩ (L.map (·.1)) w.heap.size q w x k) (hx2 : HeapL B x b g' cap' L') (hz : HeapL B z b g' cap' (swapL L' k ((k - 1) / 2))) (hr : Rest g' x z) (hb : Below B x z) (hd : 0 < k ∧ icmp (itF L' k) (itF L' ((k - 1) / 2)) < 0) => hx.next hx2 hL' hp' hub' hg' hfar hz hr hb hd.1 hd.2
      have hqg : Hid (q ≠ g' ∧ w.heap.size ≠ g') := by
        obtain ⟨cur, hc⟩ := hH.block
        exact ⟨ne_types hk.out.hq hc (by decide), ne_types hk.out.hx hc (by decide)⟩
      replace hH := hiddenI hH
      clear hub' hp' hll hg' hfar hL' hn9
      have hT : Hid (decide (0 < k ∧ icmp (itF L' k) (itF L' ((k - 1) / 2)) < 0) = true → 0 < k ∧ icmp (itF L' k) (itF L' ((k - 1) / 2)) < 0) := of_decide_eq_true
      have hF : Hid (decide (0 < k ∧ icmp (itF L' k) (itF L' ((k - 1) / 2)) < 0) = false → ¬ (0 < k ∧ icmp (itF L' k) (itF L' ((k - 1) / 2)) < 0)) := of_decide_eq_false
      generalize decide (0 < k ∧ icmp (itF L' k) (itF L' ((k - 1) / 2)) < 0) = d at hrise hT hF
      go_wp2_with fail
      refine hrise.mono ?_
      rintro e w1 ⟨rfl, hB1⟩
      have hk1 := hiddenI (hk.out.step hB1)
      have hH1 := hiddenI (hH.out.step hB1)
      clear hk hH hB1 hrise hqc hXc
      cases d with
      | true =>
        have hd := hT.out rfl
        have h0 := hd.1
        have hsw := hswp w1 hH1.out h0
        obtain ⟨hqc, -⟩ := box1 hk1.out.hq
        obtain ⟨hXc, -⟩ := box1 hk1.out.hx
        have hq1 : IntKind.i64.wrap (Int.tdiv ((k : Int) - 1) 2) = (((k - 1) / 2 : Nat) : Int) := by
          rw [show ((k : Int) - 1) = ((k - 1 : Nat) : Int) by omega]
          rw [show (2 : Int) = ((2 : Nat) : Int) by rfl, ← Int.ofNat_tdiv]
          rw [IntKind.wrap_i64]; omega
        have hm9 : (k - 1) / 2 < k := by omega
        have hk0 : (0 : Int) < k := by omega
        have hkn : (k : Int) ≤ 1000 := by omega
        replace hd := hiddenI hd
        generalize hm : (k - 1) / 2 = m at *
        replace hm := hiddenI hm
        clear hT hF
        go_wp2_with fail
        refine hsw.mono ?_
        rintro e w2' ⟨rfl, hz, hzb, hzr⟩
        have hqz := (hzr q hqg.out.1).trans hk1.out.hq
        obtain ⟨hqc2, hqf2⟩ := box1 hqz
        obtain ⟨hXc2, -⟩ := box1 ((hzr w.heap.size hqg.out.2).trans hk1.out.hx)
        have hfin := hiddenI (hnext.out w1 w2' hk1.out hH1.out hz hzr hzb hd.out)
        have hqz9 := hiddenI hqz
        clear hz hzb hzr hqz hsw hswp hnext hdone hk1 hH1 hqc hXc
        go_wp2
        refine ⟨⟨m, hfin⟩, ?_⟩
        rw [hpl.out, placeOf_set hqz9.out]
        omega
      | false =>
        have hfin := hiddenI (hdone.out w1 hk1.out hH1.out (hF.out rfl))
        clear hdone hnext hswp hk1 hH1 hT hF
        go_wp2
        go_end0
        exact ⟨rfl, hfin.out⟩
  go_region_law (first
    | (refine step_wp (by rfl) (wp_call (vs := #[.agg #[.int .i64 c, .slice na yn nc, .int .i64 p, .int .i64 r]]) (by rfl) (fun _ _ => rfl) (by simp only [List.map_toArray, List.map_cons, List.map_nil] <;> rfl) (hcl.mono ?_)); rintro e z ⟨va, rfl, hown5, hB5⟩; refine ⟨_, rfl, ?_⟩
       obtain ⟨a5, c5, rfl⟩ : ∃ a c, va = .slice a l.length c := by
         rcases hown5.2 with ⟨rfl, h0⟩ | ⟨g, cap, cur, rfl, _⟩
         · exact ⟨_, _, by rw [h0]⟩
         · exact ⟨_, _, rfl⟩
       have hHz := hiddenI (hH.out.drew.step hB5)
       have hHa := hiddenI (hHz.out.step ((Below.refl z.heap.size z).alloc (Nat.le_refl _) (.cells #[.int .i64 c, .slice a5 l.length c5, .int .i64 p, .int .i64 r] 24)))
       have y0 := (hB5.cell (p := ⟨w.heap.size, 0, none⟩) (by have := hs2.out; show w.heap.size < w2.heap.size; omega)).trans x0
       have y1 := hHz.out.cell
       rw [hN.out] at y1
       have y2 : ∀ o, (z.alloc o).cell? ⟨w.heap.size, 0, none⟩ = some (.pointer (some ⟨b, 0, none⟩)) := fun o => (World.cell?_alloc_lt _ _ _ (World.block_lt_of_cell? _ _ y0)).trans y0
       have y3 : ∀ o, (z.alloc o).cell? ⟨b, 0, none⟩ = some (.slice (some ⟨g, 0, none⟩) n cap) := fun o => (World.cell?_alloc_lt _ _ _ (World.block_lt_of_cell? _ _ y1)).trans y1
       have z1 := World.new_ne _ _ y1
       have hr5 : Hid (∀ o, (z.alloc o).ownsRow B 3 1 (.slice a5 l.length c5) l.length (ints l)) := fun o => owns_keep (owns_base hown5 (by have := hH.out.hb; have := (Array.getElem?_eq_some_iff.1 hH.out.box).1; show B ≤ w2.heap.size; omega)) ((Below.refl _ _).alloc (Nat.le_refl _) o)
       have hBA : Hid (∀ o, Below w.heap.size w (z.alloc o)) := fun o => ((t3.out.drew).trans (hB5.mono (by have := hs2.out; show w.heap.size ≤ w2.heap.size; omega))).alloc (by have := hs2.out; have h9 := hB5.size; have h8 : w2.drew.heap.size = w2.heap.size := rfl; omega) o
       have t7 : ∀ o, (z.alloc o).heap[w.heap.size]? = some (.cells #[.pointer (some ⟨b, 0, none⟩)] 26) := fun o => box_below (box_below t1d.out hB5) ((Below.refl _ _).alloc (Nat.le_refl _) o)
       have z2 := World.new_ne _ _ y0)
    | (refine step_append_own_at (by rfl) _ _ _ (by rfl) B 24 i0 _ 4 48 Try.underlying31 hi hz0 hz1 hz2 rfl (by decide) (.slice (some ⟨g, 0, none⟩) n cap) _ _ (by rfl) (by have := hHa.out.row; rw [hN.out] at this; exact this) ⟨z.heap.size, 0, none⟩ 1 1 [.int .i64 c, .slice a5 l.length c5, .int .i64 p, .int .i64 r] (by rfl) (by rfl) (cells_newI z [_, _, _, _] _) (by simp [Value.oneCell']) (by unfold maxLen; omega) (by omega) (by have := hHa.out.hb; have := (Array.getElem?_eq_some_iff.1 hHa.out.box).1; omega) ?_
       intro v' w6 hown6 hgrow6 hat6
       obtain ⟨q0, q1⟩ := box1 (hHa.out.box6 hgrow6)
       rw [hN.out] at q0
       have t6 := (hgrow6.block w.heap.size (Array.getElem?_eq_some_iff.1 (t7 _)).1 (fun e => row_ne hHa.out.row (t7 _) (by decide) e.symm)).trans (t7 _)
       obtain ⟨q2, -⟩ := box1 t6
       obtain ⟨g9, c9, rfl, hP, hg9, hsv, hbl⟩ := hHa.out.pushedN hN.out (y := ⟨c, l, p, r⟩) (nv := .slice a5 l.length c5) (hr5.out _) hown6 hgrow6 hat6)
    | fail)
  all_goals
    refine OnlyN.mk ?_
    rw [hR.out]
    exact ⟨_, _, _, _, _, _, _, _, _, _, _, g9, c9, _, rfl, hP, pushed_at hg9 (hBA.out _).size, (heap_oI (ne_types (hHa.out.box6 hgrow6) t6 (by decide))).trans t6, (Save2.of_below (b := b) (g := g) (hBA.out _)).trans hsv (.inl rfl), ((hBA.out _).mono (by have := h.out.hb; have := (Array.getElem?_eq_some_iff.1 h.out.box).1; omega)).trans hbl⟩
end Go.Proofs.Ytapdkdfgjjdbkaa
