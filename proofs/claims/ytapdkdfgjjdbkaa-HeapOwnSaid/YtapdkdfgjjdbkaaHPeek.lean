/-
  slices.SortFunc OF ITEMS, by contract.
-/
import Derived.Test.YtapdkdfgjjdbkaaHSortM
import Derived.Test.YtapdkdfgjjdbkaaIOrd
import Derived.Test.YtapdkdfgjjdbkaaShelf
import Derived.Shelf.SlSortCmp.WholeK
namespace Go.Proofs.Ytapdkdfgjjdbkaa
open Go.ChangeShapes Go.WideShapes Go.ChangeAt Go.RowKit

/-- An item whose row is its own. -/
def OkP (w : World) (B : Nat) (p : Pr) : Prop := w.ownsRow B 3 1 p.2 p.1.l.length (ints p.1.l) ∧ p.1.l.length ≤ 1000
structure Elt (w : World) (B : Nat) where
  val : Pr
  ok : OkP w B val
instance (w : World) (B : Nat) : Inhabited (Elt w B) := ⟨⟨pr0, ⟨rfl, .inl ⟨rfl, rfl⟩⟩, by decide⟩⟩
theorem lift_ok (w : World) (B : Nat) : ∀ L : List Pr, (∀ p ∈ L, OkP w B p) → ∃ D : List (Elt w B), D.map (fun x => x.1) = L
  | [], _ => ⟨[], rfl⟩
  | p :: L, h => by
    obtain ⟨D, hD⟩ := lift_ok w B L fun q hq => h q (List.mem_cons_of_mem _ hq)
    exact ⟨⟨p, h p List.mem_cons_self⟩ :: D, by rw [List.map_cons, hD]⟩
theorem enters_order : ∀ args w, (callFunc 22 args).run Try.prog w = .ok (.enter 22 args) w := enters_of Try.func22 (by kernel_rfl) rfl
theorem agg_item : ∀ w, (isAgg 24).run Try.prog w = .ok true w := fun w => by kernel_rfl
theorem size_item : ∀ w, (Go.sizeOf 24).run Try.prog w = .ok 4 w := fun w => by kernel_rfl
/-- The order, in the sort's worlds. -/
theorem cmpLays_item (w : World) (B g n cap : Nat) (L : List Pr) (hr : w.ownsRow B 24 4 (.slice (some ⟨g, 0, none⟩) n cap) n (encs L)) :
    Go.Proofs.CmpLays Try.prog 22 #[] (fun x : Elt w B => encP x.1) 4 (fun x y => icmp x.1.1 y.1.1) g 0 n w := fun m os dk _ x y => by
  have hx := holds_of_owns (sw_ints (fun x : Elt w B => encP x.1) w B B g n cap m _ _ _ _ dk os hr x.2.1)
  have hy := holds_of_owns (sw_ints (fun x : Elt w B => encP x.1) w B B g n cap m _ _ _ _ dk os hr y.2.1)
  have h := horderL_c x.1.1 y.1.1 x.1.2 y.1.2 _ hx hy (by have := x.2.2; omega) (by have := y.2.2; omega)
  exact h
/-- Items in a row of their own, sorted. -/
theorem sort_c (w : World) (B g n cap : Nat) (L : List Pr) (ys : List It) (h : HRow B (.slice (some ⟨g, 0, none⟩) n cap) L n ys w) (hL : L.length = n) (hy : ys.length = n) (hl : ∀ y ∈ ys, y.l.length ≤ 1000) (hn : n ≤ 1000) (hB : B ≤ g) :
    Calls Try.prog 21 #[.slice (some ⟨g, 0, none⟩) n cap, .func (.func 22) #[] #[]] w fun e w' =>
      e = .returned (.tuple #[]) ∧ ∃ L' ys', HRow B (.slice (some ⟨g, 0, none⟩) n cap) L' n ys' w' ∧ L'.length = n ∧ ys'.Perm ys ∧ (∀ i j, i < j → j < n → ¬ icmp (ys'.getD j It.none) (ys'.getD i It.none) < 0) ∧ Below B w w' ∧ (∀ j, j < w.heap.size → j ≠ g → w'.heap[j]? = w.heap[j]?) := by
  have hok : ∀ p ∈ L, OkP w B p := fun p hp => by
    obtain ⟨j, hj, rfl⟩ := List.mem_iff_getElem.1 hp
    obtain ⟨h1, h2⟩ := h.its j (by omega)
    have e : L.getD j pr0 = L[j] := by simp [List.getD, hj]
    rw [e] at h1 h2
    refine ⟨by rw [h1]; exact h2, ?_⟩
    rw [h1]
    have hj' : j < ys.length := by omega
    have e' : ys.getD j It.none = ys[j] := by simp [List.getD, hj']
    rw [e']
    exact hl _ (List.getElem_mem hj')
  obtain ⟨D, hD⟩ := lift_ok w B L hok
  have hys : ys = L.map (·.1) := by
    apply List.ext_getElem
    · simp [hL, hy]
    · intro j h1 h2
      have h3 := (h.its j (by omega)).1
      have h2' : j < L.length := by simpa using h2
      simp [List.getD, h1, h2'] at h3
      simp [h3]
  have hDn : D.toArray.size = n := by rw [← hL, ← hD]; simp
  have hrow := h.row
  rw [hL, ← hD] at hrow
  have hrow' : w.ownsRow B 24 4 (.slice (some ⟨g, 0, none⟩) D.toArray.size cap) D.toArray.size (encs (D.toArray.toList.map fun x => x.1)) := by rw [hDn]; exact hrow
  have hg : g < w.heap.size := by
    rcases hrow.2 with ⟨e, _⟩ | ⟨g', cap', cur, e, _, hc, _⟩
    · cases e
    · simp only [Value.slice.injEq, Option.some.injEq, Addr.mk.injEq, and_true, true_and] at e
      obtain ⟨rfl, _⟩ := e
      exact (Array.getElem?_eq_some_iff.1 hc).1
  have hcon := Go.Proofs.AnyQ.slices_SortFunc Try.sortItem 4 agg_item size_item (fun x : Elt w B => encP x.1) (fun _ => rfl) (fun x v hv => ?one) (fun x y => icmp x.1.1 y.1.1) (swo_icmp fun x : Elt w B => x.1.1) 22 #[] g 0 cap D.toArray w enters_order (cmpLays_item w B g _ cap _ hrow') (holdsK_row (fun x : Elt w B => x.1) w B g cap D.toArray hrow') hg (by rw [hDn]; omega)
  case one =>
    obtain ⟨⟨⟨c, l, p, r⟩, nv⟩, h1, h2⟩ := x
    have hnv : nv.oneCell' = true := by
      rcases h1.2 with ⟨e, _⟩ | ⟨g', cap', cur, e, _⟩ <;> (simp only at e; subst e; rfl)
    simp only [encP, cellsI, List.mem_cons, List.not_mem_nil, or_false] at hv
    rcases hv with rfl | rfl | rfl | rfl
    · rfl
    · exact hnv
    · rfl
    · rfl
  change Calls Try.prog 21 _ _ _ at hcon
  rw [hDn] at hcon
  refine hcon.mono ?_
  rintro e w' ⟨rfl, d', m, os, hp, hs, rfl⟩
  obtain ⟨hps, -, hpp⟩ := hp
  rw [hDn] at hps
  have hpp' : d'.toList.Perm D := by
    have e1 : d'.extract 0 n = d' := by rw [← hps]; simp
    have e2 : D.toArray.extract 0 n = D.toArray := by rw [← hDn]; simp
    rw [e1, e2] at hpp
    simpa using hpp
  refine ⟨rfl, d'.toList.map (fun x => x.1), d'.toList.map (fun x => x.1.1), ⟨?_, ?_⟩, by simp [hps], ?_, ?_, sw_below _ 4 w g m d' os hB (by omega), fun j hj hne => sw_other _ 4 w g m d' os hj hne⟩
  · have := sw_row (fun x : Elt w B => x.1) w B g n cap m _ d' os hps hrow
    simpa [hps] using this
  · intro j hj
    have hj' : j < d'.size := by omega
    have e1 : (d'.toList.map (fun x => x.1)).getD j pr0 = d'[j].1 := by simp [List.getD, hj']
    have e2 : (d'.toList.map (fun x => x.1.1)).getD j It.none = d'[j].1.1 := by simp [List.getD, hj']
    rw [e1, e2]
    exact ⟨rfl, sw_ints _ w B B g n cap m _ _ _ _ d' os hrow d'[j].2.1⟩
  · have := (hpp'.map (fun x => x.1.1))
    rw [hys, ← hD, List.map_map]
    exact this
  · intro i j hij hj
    have h1 := hs i j (Nat.zero_le _) hij hj
    have hj' : j < d'.size := by omega
    have hi' : i < d'.size := by omega
    rw [getElem!_pos d' j hj', getElem!_pos d' i hi'] at h1
    simpa [Go.Proofs.ltOf, List.getD, hj', hi'] using h1
end Go.Proofs.Ytapdkdfgjjdbkaa
/-
  A HEAP OF ITEMS: heap.New and its List, by contract.
-/
namespace Go.Proofs.Ytapdkdfgjjdbkaa
open Go.ChangeShapes Go.WideShapes Go.ChangeAt Go.RowKit

/-- Items in order. -/
def Rising (ys : List It) : Prop := ∀ i j, i < j → j < ys.length → 0 ≤ icmp (ys.getD j It.none) (ys.getD i It.none)
/-- A heap: its box, its row. -/
def HeapAt (B : Nat) (w : World) (b : Nat) (ys : List It) : Prop := ∃ g cap L, B ≤ b ∧ B ≤ g ∧ w.heap[b]? = some (.cells #[.slice (some ⟨g, 0, none⟩) ys.length cap] 47) ∧ L.length = ys.length ∧ HRow B (.slice (some ⟨g, 0, none⟩) ys.length cap) L ys.length ys w
theorem hrow_lt {B g n cap k : Nat} {L : List Pr} {ys : List It} {x : World} (h : HRow B (.slice (some ⟨g, 0, none⟩) n cap) L k ys x) : g < x.heap.size := by
  rcases h.row.2 with ⟨e, _⟩ | ⟨g', cap', cur, e, _, hc, _⟩
  · cases e
  · simp only [Value.slice.injEq, Option.some.injEq, Addr.mk.injEq, and_true] at e
    obtain ⟨rfl, _⟩ := e
    exact (Array.getElem?_eq_some_iff.1 hc).1
set_option maxHeartbeats 1600000 in
set_option maxRecDepth 100000 in
theorem new_c (v : Value) (ds : List Pr) (w : World) (hv : RowP w v ds) (hn : ds.length ≤ 1000) (hl : ∀ p ∈ ds, p.1.l.length ≤ 1000) :
    Calls Try.prog 7 #[v] w fun e w' => ∃ b ys, e = .returned (.pointer (some ⟨b, 0, none⟩)) ∧ HeapAt w.heap.size w' b ys ∧ ys.Perm (ds.map (·.1)) ∧ Rising ys ∧ Below w.heap.size w w' := by
  have hall := ownall_c v ds w hv hn hl
  have hsort := fun x (L : List Pr) (h : HRow w.heap.size (.slice (some ⟨w.heap.size, 0, none⟩) ds.length ds.length) L ds.length (ds.map (·.1)) x) (hL : L.length = ds.length) =>
    sort_c x w.heap.size w.heap.size ds.length ds.length L (ds.map (·.1)) h hL (by simp) (fun y hy => by obtain ⟨p, hp, rfl⟩ := List.mem_map.1 hy; exact hl p hp) hn (Nat.le_refl _)
  replace hn := hiddenI hn
  clear hv hl
  have hY : Hid ((ds.map (·.1)).length = ds.length) := by show _ = _; simp
  generalize hN : ds.length = N at *
  generalize ds.map (·.1) = ys at *
  replace hN := hiddenI hN
  go_enter Try.func7, Try.ntmps7
  go_wp2_with fail
  refine hall.mono ?_
  rintro e w1 ⟨rfl, L, hL, hR, hB⟩
  replace hL := hiddenI hL
  have hX : Hid ((w1.alloc (.cells #[.slice (some ⟨w.heap.size, 0, none⟩) N N] 47)).heap[w1.heap.size]? = some (.cells #[.slice (some ⟨w.heap.size, 0, none⟩) N N] 47)) := heap_alloc_new _ _
  have hBX : Below w1.heap.size w1 (w1.alloc (.cells #[.slice (some ⟨w.heap.size, 0, none⟩) N N] 47)) := (Below.refl _ _).alloc (Nat.le_refl _) _
  have hs := hsort _ L (hR.step hBX) hL.out
  have hB2 := hiddenI (hB.trans (hBX.mono hB.size))
  have hsz := hiddenI hB.size
  have hlt := hiddenI (hrow_lt hR)
  clear hall hsort hR hBX hB
  go_wp2_with fail
  refine hs.mono ?_
  rintro e w2 ⟨rfl, L', ys', hR', hL', hp, hr, hB3, hfr⟩
  have hne : w1.heap.size ≠ w.heap.size := by have := hlt.out; omega
  have hbox := hiddenI ((hfr w1.heap.size (by show _ < (w1.heap.push _).size; simp) hne).trans hX.out)
  have hlen : ys'.length = N := hp.length_eq.trans hY.out
  have hBf := hiddenI (hB2.out.trans hB3)
  replace hr := hiddenI hr
  replace hR' := hiddenI hR'
  replace hlen := hiddenI hlen
  replace hL' := hiddenI hL'
  clear hs hfr hX hB2 hB3 hY
  go_wp2
  go_ret
  refine ⟨w1.heap.size, ys', rfl, ⟨w.heap.size, N, L', hsz.out, Nat.le_refl _, ?_, hL'.out.trans hlen.out.symm, ?_⟩, hp, ?_, hBf.out⟩
  · rw [hlen.out]; exact hbox.out
  · rw [hlen.out]; exact hR'.out
  · intro i j hij hj
    exact hr.out i j hij (by rw [← hlen.out]; exact hj)
end Go.Proofs.Ytapdkdfgjjdbkaa
/-
  WHAT A HEAP LISTS, by contract.
-/
namespace Go.Proofs.Ytapdkdfgjjdbkaa
open Go.ChangeShapes Go.WideShapes Go.ChangeAt Go.RowKit

theorem hrow_map {B : Nat} {v : Value} {L : List Pr} {ys : List It} {w : World} (h : HRow B v L ys.length ys w) (hL : L.length = ys.length) : L.map (·.1) = ys := by
  apply List.ext_getElem
  · simp [hL]
  · intro j h1 h2
    have h3 := (h.its j h2).1
    have h4 : j < L.length := by omega
    simp [List.getD, h2, h4] at h3
    simp [h3]
theorem hrow_rowP {B : Nat} {v : Value} {L : List Pr} {ys : List It} {w : World} (h : HRow B v L ys.length ys w) (hL : L.length = ys.length) : RowP w v L := by
  refine rowP_of h.row fun p hp => ?_
  obtain ⟨j, hj, rfl⟩ := List.mem_iff_getElem.1 hp
  obtain ⟨h1, h2⟩ := h.its j (by omega)
  have e : L.getD j pr0 = L[j] := by simp [List.getD, hj]
  rw [e] at h1 h2
  rw [h1]
  exact sl_of_owns h2
set_option maxHeartbeats 1600000 in
set_option maxRecDepth 100000 in
theorem heaplist_c (B b : Nat) (ys : List It) (w : World) (h : HeapAt B w b ys) (hn : ys.length ≤ 1000) (hl : ∀ y ∈ ys, y.l.length ≤ 1000) :
    Calls Try.prog 10 #[.pointer (some ⟨b, 0, none⟩)] w fun e w' => ∃ L zs, e = .returned (.slice (some ⟨w.heap.size, 0, none⟩) zs.length zs.length) ∧ L.length = zs.length ∧ HRow w.heap.size (.slice (some ⟨w.heap.size, 0, none⟩) zs.length zs.length) L zs.length zs w' ∧ zs.Perm ys ∧ Rising zs ∧ Below w.heap.size w w' := by
  obtain ⟨g, cap, L, hb, hg, hbox, hL, hR⟩ := h
  have hmap := hrow_map hR hL
  have hall := ownall_c _ L w (hrow_rowP hR hL) (by omega) (fun p hp => hl _ (by rw [← hmap]; exact List.mem_map_of_mem hp))
  have hsort := fun x (L' : List Pr) (h : HRow w.heap.size (.slice (some ⟨w.heap.size, 0, none⟩) ys.length ys.length) L' ys.length ys x) (hL' : L'.length = ys.length) =>
    sort_c x w.heap.size w.heap.size ys.length ys.length L' ys h hL' rfl hl hn (Nat.le_refl _)
  rw [hmap, hL] at hall
  have hc : w.cell? ⟨b, 0, none⟩ = some (.slice (some ⟨g, 0, none⟩) ys.length cap) := by simp [World.cell?, hbox]
  clear hn hl hmap hb hg hbox hL hR
  generalize hN : ys.length = N at hc hall hsort
  replace hN := hiddenI hN
  go_enter Try.func10, Try.ntmps10
  go_wp2_with fail
  refine hall.mono ?_
  rintro e w1 ⟨rfl, L', hL', hR', hB⟩
  have hs := hsort w1 L' hR' hL'
  replace hB := hiddenI hB
  clear hall hsort hR' hL'
  go_wp2_with fail
  refine hs.mono ?_
  rintro e w2 ⟨rfl, L2, zs, hR2, hL2, hp, hr, hB3, -⟩
  have hlen := hiddenI (hp.length_eq.trans hN.out)
  have hBf := hiddenI (hB.out.trans hB3)
  replace hr := hiddenI hr
  replace hR2 := hiddenI hR2
  replace hL2 := hiddenI hL2
  clear hs hB hB3
  go_wp2
  go_ret
  refine ⟨L2, zs, by rw [hlen.out]; rfl, hL2.out.trans hlen.out.symm, by rw [hlen.out]; exact hR2.out, hp, ?_, hBf.out⟩
  intro i j hij hj
  exact hr.out i j hij (by rw [← hlen.out]; exact hj)
end Go.Proofs.Ytapdkdfgjjdbkaa
/-
  THE FIRST ITEM OF A HEAP, by contract.
-/
namespace Go.Proofs.Ytapdkdfgjjdbkaa
open Go.ChangeShapes Go.WideShapes Go.ChangeAt Go.RowKit

set_option maxHeartbeats 1600000 in
set_option maxRecDepth 100000 in
theorem heaplen_c (B b : Nat) (ys : List It) (w : World) (h : HeapAt B w b ys) :
    Calls Try.prog 17 #[.pointer (some ⟨b, 0, none⟩)] w fun e w' => e = .returned (.int .i64 ys.length) ∧ w' = w := by
  obtain ⟨g, cap, L, hb, hg, hbox, hL, hR⟩ := h
  have hc : w.cell? ⟨b, 0, none⟩ = some (.slice (some ⟨g, 0, none⟩) ys.length cap) := by simp [World.cell?, hbox]
  clear hb hg hbox hL hR
  go_enter Try.func17, Try.ntmps17
  go_wp2
  go_ret
  exact ⟨rfl, rfl⟩
set_option maxHeartbeats 1600000 in
set_option maxRecDepth 100000 in
theorem peek_c (B b : Nat) (y : It) (ys : List It) (w : World) (h : HeapAt B w b (y :: ys)) (hl : y.l.length ≤ 1000) :
    Calls Try.prog 9 #[.pointer (some ⟨b, 0, none⟩)] w fun e w' => ∃ nv, e = .returned (.tuple #[itV y nv, .bool true]) ∧ w'.ownsRow w.heap.size 3 1 nv y.l.length (ints y.l) ∧ Below w.heap.size w w' := by
  obtain ⟨wA, hwA⟩ : ∃ wA, wA = w.alloc (.cells #[.int .i64 0, .slice none 0 0, .int .i64 0, .int .i64 0] 24) := ⟨_, rfl⟩
  have hBA : Below w.heap.size w wA := by rw [hwA]; exact (Below.refl _ _).alloc (Nat.le_refl _) _
  have hX : wA.heap[w.heap.size]? = some (.cells #[.int .i64 0, .slice none 0 0, .int .i64 0, .int .i64 0] 24) := by rw [hwA]; exact heap_alloc_new _ _
  have hsA : w.heap.size < wA.heap.size := (Array.getElem?_eq_some_iff.1 hX).1
  obtain ⟨g, cap, L, hb, hg, hbox0, hL, hR0⟩ := h
  have hbox : wA.heap[b]? = some (.cells #[.slice (some ⟨g, 0, none⟩) (y :: ys).length cap] 47) := (hBA.block _ (Array.getElem?_eq_some_iff.1 hbox0).1).trans hbox0
  have hR := hR0.step hBA
  have hlen := heaplen_c B b (y :: ys) wA ⟨g, cap, L, hb, hg, hbox, hL, hR⟩
  have hc : wA.cell? ⟨b, 0, none⟩ = some (.slice (some ⟨g, 0, none⟩) (y :: ys).length cap) := by simp [World.cell?, hbox]
  have hrow := hR.row
  rw [hL] at hrow
  obtain ⟨i1, i2⟩ := hR.its 0 (by simp)
  have g0 := own_cell hrow (encs_get L 0 0 (by rw [hL]; simp) (by decide))
  have g1 := own_cell hrow (encs_get L 0 1 (by rw [hL]; simp) (by decide))
  have g2 := own_cell hrow (encs_get L 0 2 (by rw [hL]; simp) (by decide))
  have g3 := own_cell hrow (encs_get L 0 3 (by rw [hL]; simp) (by decide))
  generalize L.getD 0 pr0 = p at *
  obtain ⟨x, nv⟩ := p
  obtain rfl : x = y := i1
  replace i2 : wA.ownsRow B 3 1 nv x.l.length (ints x.l) := i2
  have how := own_c x nv wA (sl_of_owns i2) hl
  obtain ⟨c, l, q, r⟩ := x
  replace g0 : wA.cell? ⟨g, 0, none⟩ = some (.int .i64 c) := g0
  replace g1 : wA.cell? ⟨g, 1, none⟩ = some nv := g1
  replace g2 : wA.cell? ⟨g, 2, none⟩ = some (.int .i64 q) := g2
  replace g3 : wA.cell? ⟨g, 3, none⟩ = some (.int .i64 r) := g3
  simp only [itV] at how ⊢
  have hn1 : 0 < ((⟨c, l, q, r⟩ : It) :: ys).length := by simp
  generalize ((⟨c, l, q, r⟩ : It) :: ys).length = n at *
  have hn0 : ¬ (n : Int) = 0 := by omega
  have hnpos : (0 : Int) < n := by omega
  obtain ⟨a5, c5, rfl⟩ : ∃ a c, nv = .slice a l.length c := by
    rcases i2.2 with ⟨rfl, h0⟩ | ⟨g, cap, cur, rfl, _⟩
    · exact ⟨_, _, by rw [show l.length = 0 from h0]⟩
    · exact ⟨_, _, rfl⟩
  clear i2 hrow hR hR0 hbox hbox0 hL hg hb hl
  replace hwA := hiddenI hwA
  replace hBA := hiddenI hBA
  replace hX := hiddenI hX
  replace hsA := hiddenI hsA
  replace hn1 := hiddenI hn1
  have hlenl : Hid (l.length = l.length) := rfl
  generalize hLn : l.length = ln at *
  replace hLn := hiddenI hLn
  go_enter Try.func9, Try.ntmps9
  go_wp2_with fail
  rw [← hwA.out]
  refine hlen.mono ?_
  rintro e w1 ⟨rfl, rfl⟩
  go_wp2_with fail
  refine how.mono ?_
  rintro e w2 ⟨nv', rfl, hown, hB2⟩
  obtain ⟨a6, c6, rfl⟩ : ∃ a c, nv' = .slice a ln c := by
    rcases hown.2 with ⟨rfl, h0⟩ | ⟨g, cap, cur, rfl, _⟩
    · exact ⟨_, _, by rw [h0]⟩
    · exact ⟨_, _, rfl⟩
  have hX2 := (hB2.block _ hsA.out).trans hX.out
  obtain ⟨⟨x0, x1, x2, x3⟩, z0, z1, z2, z3⟩ := box4 hX2
  have hfin := hiddenI (heap_set4 hX2 (.int .i64 c) (.slice a6 ln c6) (.int .i64 q) (.int .i64 r))
  have hBf := hiddenI (((((hBA.out.trans (hB2.mono hBA.out.size)).setCell (p := ⟨w.heap.size, 0, none⟩) (Nat.le_refl _) (.int .i64 c)).setCell (p := ⟨w.heap.size, 1, none⟩) (Nat.le_refl _) (.slice a6 ln c6)).setCell (p := ⟨w.heap.size, 2, none⟩) (Nat.le_refl _) (.int .i64 q)).setCell (p := ⟨w.heap.size, 3, none⟩) (Nat.le_refl _) (.int .i64 r))
  have hX3 := heap_setI hX2 0 (.int .i64 c)
  have hX4 := heap_setI hX3 1 (.slice a6 ln c6)
  have hX5 := heap_setI hX4 2 (.int .i64 q)
  have hnf := hiddenI (owns_setO (owns_setO (owns_setO (owns_setO (owns_base hown (Nat.le_of_lt hsA.out)) hX2 (by decide) 0 (.int .i64 c)) hX3 (by decide) 1 (.slice a6 ln c6)) hX4 (by decide) 2 (.int .i64 q)) hX5 (by decide) 3 (.int .i64 r))
  clear how hlen hX2 hX3 hX4 hX5 hown hB2 hX hBA hsA hwA
  go_wp2
  replace hfin := hfin.out
  refine bodyPost_ret (v := .tuple #[.agg #[.int .i64 c, .slice a6 ln c6, .int .i64 q, .int .i64 r], .bool true]) ?_ rfl ⟨.slice a6 ln c6, rfl, hnf.out, hBf.out⟩
  rw [results_cell_tmp rfl]
  have hv := run_loadVar_row _ _ _ 24 _ _ _ hfin Try.underlying24 rfl (by kernel_rfl)
  simp [asAddr, hv, Result.andThen]
end Go.Proofs.Ytapdkdfgjjdbkaa
