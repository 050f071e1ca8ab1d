/-
  THE LAW CsrAll, with lives() as a premise.
-/
import Derived.Test.YtgojieabeaalcaaCsOut
import Derived.Test.YtgojieabeaalcaaGRCheck
namespace Go.Proofs.Ytgojieabeaalcaa
open Go.ChangeShapes Go.WideShapes Go.ChangeAt Go.RowKit Go.Maps

theorem OwnG.below {g : Gr} {vs : List NdV} {a : Option Addr} {n c : Nat} {b : Option Addr} {m d : Nat} {x y : World} (h : OwnG g vs a n c b m d x) (hB : Below x.heap.size x y) : OwnG g vs a n c b m d y := h.keep (.of_below hB)
theorem few_b (g : Gr) (vs : List NdV) (a : Option Addr) (n c : Nat) (b : Option Addr) (m d : Nat) (w : World) (hg : OwnG g vs a n c b m d w) (hf : g.few = g) (hs : g.sm) :
    Calls Try.prog 6 #[.agg #[.slice a n c, .slice b m d]] w fun e w' => ∃ (us : List NdV) (a' : Option Addr) (n' c' : Nat) (b' : Option Addr) (m' d' : Nat), e = .returned (.agg #[.slice a' n' c', .slice b' m' d']) ∧ OwnG g us a' n' c' b' m' d' w' ∧ Below w.heap.size w w' :=
  (gfew_c g _ _ w hg.holds (by have := hs.1; omega) (by have := hs.2.2.1; omega) (fun x hx => by have := (hs.2.1 x hx).2.1; omega)).mono fun e w' ⟨us, a', n', c', b', m', d', he, h1, h2, hB⟩ => by
    rw [hf] at h1 h2
    exact ⟨us, a', n', c', b', m', d', he, ⟨h1, h2⟩, hB⟩
theorem rggood_c (g : Gr) (vs : List NdV) (a : Option Addr) (n c : Nat) (b : Option Addr) (m d : Nat) (w : World) (hg : OwnG g vs a n c b m d w) (hs : g.sm) :
    Calls Try.prog 25 #[.agg #[.slice a n c, .slice b m d]] w fun e w' => e = .returned (.bool ((checkG g).2 == 0)) ∧ Below w.heap.size w w' := by
  have hB0 := (Below.refl w.heap.size w).alloc (Nat.le_refl _) (.cells #[.slice a n c, .slice b m d] 25)
  have hX := heap_alloc_new w (.cells #[.slice a n c, .slice b m d] 25)
  have hc := rcheck_c g vs a n c b m d _ (hg.calm hB0) hs
  obtain ⟨⟨b0, b1⟩, -⟩ := box2f hX
  replace hB0 := hidden hB0
  clear hX hg hs
  generalize (checkG g).1 = p at *
  generalize (checkG g).2 = q at *
  go_enter Try.func25, Try.ntmps25
  go_wp2_with fail
  refine hc.mono ?_
  rintro e w5 ⟨rfl, hB5⟩
  have hBL : Hid (Below w.heap.size w w5) := hB0.out.trans (hB5.mono hB0.out.size)
  clear hB5 hB0 b0 b1 hc
  go_wp2
  go_ret
  exact ⟨by first | done | rfl, hBL.out⟩
/-- How often an edge is seen: in the rows of all nodes ahead of one. -/
def cntD (D : Nat → Nat) (n x : Nat) : Nat := if D x < n then 1 else 0
/-- The same, and in the beginning of that one's row. -/
def cntR (D : Nat → Nat) (l : List Nat) (n i x : Nat) : Nat := cntD D n x + (if x ∈ (part D l n).take i then 1 else 0)
theorem cntR_zero (D : Nat → Nat) (l : List Nat) (n : Nat) : cntR D l n 0 = cntD D n := by funext x; simp [cntR]
theorem cntR_all {D : Nat → Nat} {l : List Nat} {K : Nat → Nat} {m : Nat} (ho : Ordered K m l) (n : Nat) : cellsN m (cntR D l n (part D l n).length) = cellsN m (cntD D (n + 1)) := cellsN_congr fun x hx => by
  unfold cntR cntD
  rw [List.take_length]
  have h : x ∈ part D l n ↔ D x = n := by rw [mem_part]; exact ⟨fun h => h.2, fun h => ⟨(ho.2 x).2 hx, h⟩⟩
  by_cases h1 : D x = n
  · rw [if_pos (h.2 h1), if_neg (by omega), if_pos (by omega)]
  · rw [if_neg (fun e => h1 (h.1 e))]
    by_cases h2 : D x < n
    · rw [if_pos h2, if_pos (by omega)]
    · rw [if_neg h2, if_neg (by omega)]
theorem part_nodup {D : Nat → Nat} {l : List Nat} {K : Nat → Nat} {m : Nat} (ho : Ordered K m l) (n : Nat) : (part D l n).Nodup := (ho.1.imp fun h => h.irrefl).sublist List.filter_sublist
theorem cntR_step {D : Nat → Nat} {l : List Nat} {K : Nat → Nat} {m : Nat} (ho : Ordered K m l) (n i : Nat) (hi : i < (part D l n).length) :
    cntR D l n i ((part D l n).getD i 0) = 0 ∧ (cellsN m (cntR D l n i)).set ((part D l n).getD i 0) (.int .i64 ((1 : Nat) : Int)) = cellsN m (cntR D l n (i + 1)) ∧ (part D l n).getD i 0 < m := by
  have hnd := part_nodup (D := D) ho n
  have hg : (part D l n).getD i 0 = (part D l n)[i] := by simp [List.getD, hi]
  have hmem : (part D l n).getD i 0 ∈ part D l n := by rw [hg]; exact List.getElem_mem _
  obtain ⟨hl, hD⟩ := mem_part.1 hmem
  have hnot : (part D l n).getD i 0 ∉ (part D l n).take i := fun h => by
    obtain ⟨j, hj, e⟩ := List.mem_iff_getElem.1 h
    rw [List.length_take] at hj
    rw [List.getElem_take, hg] at e
    exact absurd e (List.pairwise_iff_getElem.1 hnd j i (by omega) hi (by omega))
  have h0 : cntR D l n i ((part D l n).getD i 0) = 0 := by
    unfold cntR cntD
    rw [if_neg (by omega), if_neg hnot]
  refine ⟨h0, cellsN_set ?_ fun x _ hne => ?_, (ho.2 _).1 hl⟩
  · unfold cntR cntD
    have hin : (part D l n).getD i 0 ∈ (part D l n).take (i + 1) := by
      rw [hg, List.take_add_one, List.getElem?_eq_getElem hi]
      exact List.mem_append_right _ (List.mem_singleton.2 rfl)
    rw [if_neg (by omega), if_pos hin]
  · unfold cntR
    congr 1
    rw [List.take_add_one, List.getElem?_eq_getElem hi]
    simp only [Option.toList_some, List.mem_append, List.mem_singleton]
    have : ¬ x = (part D l n)[i] := fun e => hne (e.trans hg.symm)
    simp [this]
theorem cntD_zero (D : Nat → Nat) (m : Nat) : cellsN m (cntD D 0) = List.replicate m (.int .i64 0) := by
  rw [← cellsN_zero]
  exact cellsN_congr fun x _ => by simp [cntD]
/-- The rows of what was seen. -/
structure SN (y : World) (gS gA gB m : Nat) (FA FB : Nat → Nat) (x : World) : Prop where
  kk : Below y.heap.size y x
  sbox : x.heap[gS]? = some (.cells #[.slice (some ⟨gA, 0, none⟩) m m, .slice (some ⟨gB, 0, none⟩) m m] 55)
  sa : x.ownsRow y.heap.size 3 1 (.slice (some ⟨gA, 0, none⟩) m m) m (cellsN m FA)
  sb : x.ownsRow y.heap.size 3 1 (.slice (some ⟨gB, 0, none⟩) m m) m (cellsN m FB)
  ne : gA ≠ gB ∧ y.heap.size ≤ gS
theorem SN.step {y x z : World} {gS gA gB m : Nat} {FA FB : Nat → Nat} (h : SN y gS gA gB m FA FB x) (hB : Below x.heap.size x z) : SN y gS gA gB m FA FB z :=
  ⟨h.kk.trans (hB.mono h.kk.size), box_below h.sbox hB, owns_keep h.sa hB, owns_keep h.sb hB, h.ne⟩
theorem SN.setA {y x : World} {gS gA gB m : Nat} {FA FB FA' : Nat → Nat} (h : SN y gS gA gB m FA FB x) (j : Nat) (v : Value) (hF : (cellsN m FA).set j v = cellsN m FA') : SN y gS gA gB m FA' FB (x.setCell ⟨gA, j, none⟩ v) := by
  have hs := (h.sa.stored j v).1
  rw [hF] at hs
  exact ⟨h.kk.setCell (p := ⟨gA, j, none⟩) (h.sa.lt gA rfl).1 v, set_oth h.sbox (fun e => row_ne h.sa h.sbox (by decide) (by rw [← e]; rfl)) _ _, hs, ownsRow_setCell_other h.sb (a := ⟨gA, j, none⟩) (by simp [Value.ownBlock]; exact Ne.symm h.ne.1) v, h.ne⟩
theorem SN.setB {y x : World} {gS gA gB m : Nat} {FA FB FB' : Nat → Nat} (h : SN y gS gA gB m FA FB x) (j : Nat) (v : Value) (hF : (cellsN m FB).set j v = cellsN m FB') : SN y gS gA gB m FA FB' (x.setCell ⟨gB, j, none⟩ v) := by
  have hs := (h.sb.stored j v).1
  rw [hF] at hs
  exact ⟨h.kk.setCell (p := ⟨gB, j, none⟩) (h.sb.lt gB rfl).1 v, set_oth h.sbox (fun e => row_ne h.sb h.sbox (by decide) (by rw [← e]; rfl)) _ _, ownsRow_setCell_other h.sa (a := ⟨gB, j, none⟩) (by simp [Value.ownBlock]; exact h.ne.1) v, hs, h.ne⟩
theorem SN.mkS {y x : World} {gS gA gB m : Nat} {F1 F2 : Nat → Nat} (kk : Below y.heap.size y x) (hbx : x.heap[gS]? = some (.cells #[.slice none 0 0, .slice none 0 0] 55)) (hA : x.ownsRow y.heap.size 3 1 (.slice (some ⟨gA, 0, none⟩) m m) m (List.replicate m (.int .i64 0)))
    (hB : x.ownsRow y.heap.size 3 1 (.slice (some ⟨gB, 0, none⟩) m m) m (List.replicate m (.int .i64 0))) (hne : gA ≠ gB) (hle : y.heap.size ≤ gS) (e1 : cellsN m F1 = List.replicate m (.int .i64 0)) (e2 : cellsN m F2 = List.replicate m (.int .i64 0)) :
    SN y gS gA gB m F1 F2 ((x.setCell ⟨gS, 0, none⟩ (.slice (some ⟨gA, 0, none⟩) m m)).setCell ⟨gS, 1, none⟩ (.slice (some ⟨gB, 0, none⟩) m m)) := by
  have hb1 := set_heap hbx 0 (.slice (some ⟨gA, 0, none⟩) m m)
  refine ⟨(kk.setCell (p := ⟨gS, 0, none⟩) hle _).setCell (p := ⟨gS, 1, none⟩) hle _, by simpa using set_heap hb1 1 (.slice (some ⟨gB, 0, none⟩) m m), ?_, ?_, hne, hle⟩
  · rw [e1]; exact own_set (own_set hA hbx (by decide) _ _) hb1 (by decide) _ _
  · rw [e2]; exact own_set (own_set hB hbx (by decide) _ _) hb1 (by decide) _ _
theorem made_zero (k : Nat) : (madeCells #[.int .i64 0] (k * 1)).toList = List.replicate k (.int .i64 0) := by
  rw [made_nats]; simp [natsV]
def selB {α : Type} : Bool → α → α → α
  | false, a, _ => a
  | true, _, b => b
/-- In the midst of a node's row, the one way or the other. -/
def SQ (y : World) (gS gA gB m : Nat) (g : Gr) (C : CsX) (k : Nat) (i : Nat) (x : World) : Bool → Prop
  | false => SN y gS gA gB m (cntR (whoOf g.es false) C.l1 k i) (cntD (whoOf g.es true) k) x
  | true => SN y gS gA gB m (cntD (whoOf g.es false) (k + 1)) (cntR (whoOf g.es true) C.l2 k i) x
/-- Between the rows of a node. -/
def SM (y : World) (gS gA gB m : Nat) (g : Gr) (k q : Nat) (x : World) : Prop :=
  SN y gS gA gB m (cntD (whoOf g.es false) (k + if 0 < q then 1 else 0)) (cntD (whoOf g.es true) (k + if 1 < q then 1 else 0)) x
theorem SN.cells {y x : World} {gS gA gB m : Nat} {FA FB : Nat → Nat} (h : SN y gS gA gB m FA FB x) (bk : Bool) : x.cell? ⟨gS, bk.toNat, none⟩ = some (.slice (some ⟨selB bk gA gB, 0, none⟩) m m) := by
  obtain ⟨⟨h0, h1⟩, -⟩ := box2f h.sbox
  cases bk
  · exact h0
  · exact h1
theorem SQ.sn {y x : World} {gS gA gB m : Nat} {g : Gr} {C : CsX} {k i : Nat} {bk : Bool} (h : SQ y gS gA gB m g C k i x bk) : ∃ FA FB, SN y gS gA gB m FA FB x := by
  cases bk
  · exact ⟨_, _, h⟩
  · exact ⟨_, _, h⟩
theorem SQ.start {y x : World} {gS gA gB m : Nat} {g : Gr} {C : CsX} {k : Nat} {bk : Bool} (h : SM y gS gA gB m g k bk.toNat x) : SQ y gS gA gB m g C k 0 x bk := by
  cases bk
  · show SN ..
    rw [cntR_zero]; exact h
  · show SN ..
    rw [cntR_zero]; exact h
theorem SN.congr {y x : World} {gS gA gB m : Nat} {FA FB FA' FB' : Nat → Nat} (h : SN y gS gA gB m FA FB x) (e1 : cellsN m FA = cellsN m FA') (e2 : cellsN m FB = cellsN m FB') : SN y gS gA gB m FA' FB' x :=
  ⟨h.kk, h.sbox, e1 ▸ h.sa, e2 ▸ h.sb, h.ne⟩
/-- Where a node's row of places begins. -/
def rowP (g : Gr) (C : CsX) (k : Nat) (bk : Bool) : List Nat := part (whoOf g.es bk) (C.l bk) k
structure OrdC (g : Gr) (C : CsX) (m : Nat) : Prop where
  o1 : Ordered (keyOf (keysA (arcsL C.L g.es false))) m C.l1
  o2 : Ordered (keyOf (keysA (arcsL C.L g.es true))) m C.l2
theorem SQ.done {y x : World} {gS gA gB m : Nat} {g : Gr} {C : CsX} {k : Nat} {bk : Bool} (ho : OrdC g C m) (h : SQ y gS gA gB m g C k (rowP g C k bk).length x bk) : SM y gS gA gB m g k (bk.toNat + 1) x := by
  cases bk
  · exact SN.congr h (cntR_all ho.o1 k) rfl
  · exact SN.congr h rfl (cntR_all ho.o2 k)
theorem SQ.put {y x : World} {gS gA gB m : Nat} {g : Gr} {C : CsX} {k i : Nat} {bk : Bool} (ho : OrdC g C m) (h : SQ y gS gA gB m g C k i x bk) (hi : i < (rowP g C k bk).length) :
    (rowP g C k bk).getD i 0 < m ∧ x.cell? ⟨selB bk gA gB, (rowP g C k bk).getD i 0, none⟩ = some (.int .i64 0) ∧ x.frozen? ⟨selB bk gA gB, (rowP g C k bk).getD i 0, none⟩ = false ∧
      SQ y gS gA gB m g C k (i + 1) (x.setCell ⟨selB bk gA gB, (rowP g C k bk).getD i 0, none⟩ (.int .i64 1)) bk := by
  cases bk
  · obtain ⟨h0, h1, h2⟩ := cntR_step ho.o1 k i hi
    have h : SN y gS gA gB m (cntR (whoOf g.es false) C.l1 k i) (cntD (whoOf g.es true) k) x := h
    refine ⟨h2, ?_, h.sa.frozenAt _, h.setA _ _ h1⟩
    refine (h.sa.cellAt _ (by rw [Nat.mul_one]; exact h2)).trans ((cellsN_at _ h2).trans ?_)
    rw [h0]; rfl
  · obtain ⟨h0, h1, h2⟩ := cntR_step ho.o2 k i hi
    have h : SN y gS gA gB m (cntD (whoOf g.es false) (k + 1)) (cntR (whoOf g.es true) C.l2 k i) x := h
    refine ⟨h2, ?_, h.sb.frozenAt _, h.setB _ _ h1⟩
    refine (h.sb.cellAt _ (by rw [Nat.mul_one]; exact h2)).trans ((cellsN_at _ h2).trans ?_)
    rw [h0]; rfl
theorem SQ.keep {y x : World} {gS gA gB m : Nat} {g : Gr} {C : CsX} {k i : Nat} {bk : Bool} {B n : Nat} {v : Value} {xs : List Value} {j : Nat} {u : Value} (h : SQ y gS gA gB m g C k i x bk) (hr : x.ownsRow B 58 4 v n xs) : (x.setCell ⟨selB bk gA gB, j, none⟩ u).ownsRow B 58 4 v n xs := by
  obtain ⟨FA, FB, hs⟩ := h.sn
  have hA : ∃ cs, x.heap[gA]? = some (.cells cs 3) := by
    rcases hs.sa.2 with ⟨h, _⟩ | ⟨g', cap, cur, h1, _, h3, _⟩
    · cases h
    · cases h1; exact ⟨_, h3⟩
  have hB : ∃ cs, x.heap[gB]? = some (.cells cs 3) := by
    rcases hs.sb.2 with ⟨h, _⟩ | ⟨g', cap, cur, h1, _, h3, _⟩
    · cases h
    · cases h1; exact ⟨_, h3⟩
  obtain ⟨ca, hA⟩ := hA
  obtain ⟨cb, hB⟩ := hB
  cases bk
  · exact own_set hr hA (by decide) _ _
  · exact own_set hr hB (by decide) _ _
theorem SQ.box {y x : World} {gS gA gB m : Nat} {g : Gr} {C : CsX} {k i : Nat} {bk : Bool} {b : Nat} {cs : Array Value} {j : Nat} {u : Value} (h : SQ y gS gA gB m g C k i x bk) (hr : x.heap[b]? = some (.cells cs 56)) : (x.setCell ⟨selB bk gA gB, j, none⟩ u).heap[b]? = some (.cells cs 56) := by
  obtain ⟨FA, FB, hs⟩ := h.sn
  have hne : selB bk gA gB ≠ b := fun e => by
    cases bk
    · exact row_ne hs.sa hr (by decide) (by rw [← e]; rfl)
    · exact row_ne hs.sb hr (by decide) (by rw [← e]; rfl)
  exact set_oth hr hne _ _
/-- The two rows of a node. -/
structure RowsAt (g : Gr) (C : CsX) (k : Nat) (gR : Nat) (aA : Option Addr) (cA : Nat) (aB : Option Addr) (cB : Nat) (x : World) : Prop where
  box : x.heap[gR]? = some (.cells #[.slice aA (rowP g C k false).length cA, .slice aB (rowP g C k true).length cB] 56)
  ra : x.ownsRow 0 58 4 (.slice aA (rowP g C k false).length cA) (rowP g C k false).length (arR.flat ((rowP g C k false).map fun p => (arcsL C.L g.es false).getD p Ar.none))
  rb : x.ownsRow 0 58 4 (.slice aB (rowP g C k true).length cB) (rowP g C k true).length (arR.flat ((rowP g C k true).map fun p => (arcsL C.L g.es true).getD p Ar.none))
theorem RowsAt.cell {g : Gr} {C : CsX} {k gR : Nat} {aA : Option Addr} {cA : Nat} {aB : Option Addr} {cB : Nat} {x : World} (h : RowsAt g C k gR aA cA aB cB x) (bk : Bool) : x.cell? ⟨gR, bk.toNat, none⟩ = some (.slice (selB bk aA aB) (rowP g C k bk).length (selB bk cA cB)) := by
  obtain ⟨⟨h0, h1⟩, -⟩ := box2f h.box
  cases bk
  · exact h0
  · exact h1
theorem RowsAt.ed {g : Gr} {C : CsX} {k gR : Nat} {aA : Option Addr} {cA : Nat} {aB : Option Addr} {cB : Nat} {x : World} (h : RowsAt g C k gR aA cA aB cB x) (bk : Bool) {i : Nat} (hi : i < (rowP g C k bk).length) (hm : (rowP g C k bk).getD i 0 < g.es.length) :
    ∃ b o, selB bk aA aB = some ⟨b, o, none⟩ ∧ x.cell? ⟨b, o + i * 4 + 3, none⟩ = some (.int .i64 ((rowP g C k bk).getD i 0 : Nat)) := by
  have key : ∀ (a : Option Addr) (c : Nat) (bk : Bool), x.ownsRow 0 58 4 (.slice a (rowP g C k bk).length c) (rowP g C k bk).length (arR.flat ((rowP g C k bk).map fun p => (arcsL C.L g.es bk).getD p Ar.none)) → i < (rowP g C k bk).length → (rowP g C k bk).getD i 0 < g.es.length →
      ∃ b o, a = some ⟨b, o, none⟩ ∧ x.cell? ⟨b, o + i * 4 + 3, none⟩ = some (.int .i64 ((rowP g C k bk).getD i 0 : Nat)) := fun a c bk h hi hm => by
    have hs := slR_of_owns (R := arR) (ps := (rowP g C k bk).map fun p => (arcsL C.L g.es bk).getD p Ar.none) (by rw [List.length_map]; exact h)
    obtain ⟨a', c', he, -, -, -, hr⟩ := hs
    simp only [Value.slice.injEq] at he
    obtain ⟨rfl, _, _⟩ := he
    obtain ⟨b, o, rfl, hb, hc⟩ := rec_at hr (k := i) (by rw [List.length_map]; exact hi)
    refine ⟨b, o, rfl, (hc 3 _ rfl).trans ?_⟩
    have e : ((rowP g C k bk).map fun p => (arcsL C.L g.es bk).getD p Ar.none).getD i arR.dflt = (arcsL C.L g.es bk).getD ((rowP g C k bk).getD i 0) Ar.none := by simp [List.getD, hi]
    rw [e, arcsL_at _ _ _ hm]
    rfl
  cases bk
  · exact key _ _ false h.ra hi hm
  · exact key _ _ true h.rb hi hm
theorem RowsAt.put {y x : World} {gS gA gB m : Nat} {g : Gr} {C : CsX} {k i : Nat} {bk : Bool} {gR : Nat} {aA : Option Addr} {cA : Nat} {aB : Option Addr} {cB : Nat} {j : Nat} {u : Value} (hs : SQ y gS gA gB m g C k i x bk) (h : RowsAt g C k gR aA cA aB cB x) : RowsAt g C k gR aA cA aB cB (x.setCell ⟨selB bk gA gB, j, none⟩ u) :=
  ⟨hs.box h.box, hs.keep h.ra, hs.keep h.rb⟩
theorem SM.next {y x : World} {gS gA gB m : Nat} {g : Gr} {k : Nat} (h : SM y gS gA gB m g k 2 x) : SM y gS gA gB m g (k + 1) 0 x := by
  unfold SM at *
  simpa using h
theorem SM.step {y x z : World} {gS gA gB m : Nat} {g : Gr} {k q : Nat} (h : SM y gS gA gB m g k q x) (hB : Below x.heap.size x z) : SM y gS gA gB m g k q z := SN.step h hB
theorem SM.one {y x : World} {gS gA gB m : Nat} {g : Gr} {k r : Nat} (h : SM y gS gA gB m g k 0 x) (hr : r < m) (h1 : fromOf g.es r < k) (h2 : toOf g.es r < k) :
    x.cell? ⟨gA, r, none⟩ = some (.int .i64 1) ∧ x.cell? ⟨gB, r, none⟩ = some (.int .i64 1) := by
  unfold SM at h
  refine ⟨(h.sa.cellAt _ (by rw [Nat.mul_one]; exact hr)).trans ((cellsN_at _ hr).trans ?_), (h.sb.cellAt _ (by rw [Nat.mul_one]; exact hr)).trans ((cellsN_at _ hr).trans ?_)⟩
  · have e : cntD (whoOf g.es false) (k + if 0 < 0 then 1 else 0) r = 1 := if_pos (show fromOf g.es r < k by exact h1)
    rw [e]; rfl
  · have e : cntD (whoOf g.es true) (k + if 1 < 0 then 1 else 0) r = 1 := if_pos (show toOf g.es r < k by exact h2)
    rw [e]; rfl
set_option maxHeartbeats 1600000 in
set_option maxRecDepth 100000 in
theorem lawAll_c (G : Gr) (nv ev : Value) (w : World) (hG : HoldsG w nv ev G) (hw : G.wf) (hlv : ∀ x, GoX.Calm w x → Calls Try.prog 10 #[] x fun e w' => e = .returned (.bool true) ∧ GoX.Calm x w') :
    Calls Try.prog 4 #[.agg #[nv, ev]] w fun e w' => e = .returned (.bool true) ∧ GoX.Calm w w' := by
  obtain ⟨w1', w2', w3', w4'⟩ := hw
  unfold maxLen at w1' w3'
  have hC0 : Hid (Below w.heap.size w (w.alloc (.cells #[nv, ev] 25))) := (Below.refl _ _).alloc (Nat.le_refl _) _
  have hf0 := gfew_c G nv ev _ (hG.below hC0.out) (by omega) (by omega) (fun x hx => by have := (w2' x hx).1; unfold maxLen at this; omega)
  have hX0 := hidden (heap_alloc_new w (.cells #[nv, ev] 25))
  obtain ⟨na, nc, rfl⟩ := hG.1.slice
  obtain ⟨ea, ec, rfl, -⟩ := id hG.2
  have hff := hidden (Gr.few_few G)
  have hsm := hidden (Gr.few_sm G)
  generalize G.few = g at *
  generalize G.ns.length = NL at *
  generalize G.es.length = EL at *
  clear hG w1' w2' w3' w4'
  obtain ⟨⟨b0, b1⟩, f0, f1⟩ := box2f hX0.out
  go_enter Try.func4, Try.ntmps4
  go_wp2_with fail
  refine hf0.mono ?_
  rintro e w1 ⟨vs, a, n, c, b, m, d, rfl, hN, hE, hB1⟩
  have hO1 : OwnG g vs a n c b m d w1 := ⟨hN, hE⟩
  have hX1 := box_below hX0.out hB1
  have hO2 := hidden ((hO1.set hX1 0 (.slice a n c)).set (set_heap hX1 0 (.slice a n c)) 1 (.slice b m d))
  have hX2 := hidden (set_heap (set_heap hX1 0 (.slice a n c)) 1 (.slice b m d))
  have hC2 := hidden (((hC0.out.trans (hB1.mono hC0.out.size)).setCell (p := ⟨w.heap.size, 0, none⟩) (Nat.le_refl _) (.slice a n c)).setCell (p := ⟨w.heap.size, 1, none⟩) (Nat.le_refl _) (.slice b m d))
  clear b0 b1 f0 f1 hf0
  obtain ⟨⟨b0, b1⟩, f0, f1⟩ := box2f hX1
  clear hN hE hB1 hO1 hX1
  generalize hwy : (w1.setCell ⟨w.heap.size, 0, none⟩ (.slice a n c)).setCell ⟨w.heap.size, 1, none⟩ (.slice b m d) = y at *
  replace hwy := hidden hwy
  obtain ⟨hgn, hgm⟩ := hO2.out.len
  have hN0 : n ≤ 1000 := by rw [hgn]; exact hsm.out.1
  have hM0 : m ≤ 1000 := by rw [hgm]; exact hsm.out.2.2.1
  replace hgn := hidden hgn
  replace hgm := hidden hgm
  have hfew := few_b g vs a n c b m d y hO2.out hff.out hsm.out
  have hgood : Hid (∀ x, Below y.heap.size y x → Calls Try.prog 25 #[.agg #[.slice a n c, .slice b m d]] x fun e w' => e = .returned (.bool ((checkG g).2 == 0)) ∧ Below x.heap.size x w') := hidden fun x h => rggood_c g vs a n c b m d x (hO2.out.below h) hsm.out
  have hX2' : Hid (y.heap[w.heap.size]? = some (.cells #[.slice a n c, .slice b m d] 25)) := hX2.out
  clear hX2
  go_wp2_with fail
  rw [hwy.out]
  clear b0 b1 f0 f1
  obtain ⟨⟨b0, b1⟩, -⟩ := box2f hX2'.out
  go_wp2_with fail
  refine hfew.mono ?_
  rintro e w2 ⟨us, a2, n2, c2, d2, m2, e2, rfl, hU, hD⟩
  have k2 : Hid (Below y.heap.size y w2) := hD
  clear b0 b1 hfew hD
  by_cases hok : (checkG g).2 = 0
  · have h2 := csrNew_c g us a2 n2 c2 d2 m2 e2 w2 hU hsm.out hok
    clear hU
    go_wp2_with fail
    refine h2.mono ?_
    rintro e w3 ⟨C, rfl, hCs, hD⟩
    have k3 : Hid (Below y.heap.size y w3) := k2.out.trans (hD.mono k2.out.size)
    replace hCs := hidden hCs
    obtain ⟨⟨b0, b1⟩, -⟩ := box2f (box_below hX2'.out k3.out)
    have h3 := hgood.out w3 k3.out
    rw [hok] at h3
    clear hD k2 h2 hgood
    go_wp2_with fail
    refine h3.mono ?_
    rintro e w4 ⟨rfl, hD⟩
    have k4 : Hid (Below y.heap.size y w4) := k3.out.trans (hD.mono k3.out.size)
    replace hCs := hidden (hCs.out.step hD)
    clear hD k3 h3 b0 b1
    obtain ⟨hSb, -⟩ := box2f (box_below hX2'.out k4.out)
    obtain ⟨b0, b1⟩ := id hSb
    go_wp2_with fail
    obtain ⟨ii, hii, hi0, hi1, hi2⟩ := info_parts infoInt
    obtain ⟨R, hR⟩ : ∃ R : Act → World → Prop, Hid (∀ a' x, R a' x ↔ (∃ gS gA gB : Nat, a' = ({ tmps := List.toArray (.agg #[.slice na NL nc, .slice ea EL ec] :: .pointer (some ⟨w.heap.size, 0, none⟩) :: .bool false :: .pointer (some ⟨C.b, 0, none⟩) :: .int .i64 0 :: .pointer (some ⟨gS, 0, none⟩) :: undef :: undef :: undef :: undef :: undef :: undef :: undef :: undef :: undef :: undef :: undef :: undef :: undef :: undef :: undef :: .agg #[.slice na NL nc, .slice ea EL ec] :: .agg #[.slice a n c, .slice b m d] :: .tuple #[.pointer (some ⟨C.b, 0, none⟩), .int .i64 0] :: .agg #[.slice a n c, .slice b m d] :: .agg #[.slice a2 n2 c2, .slice d2 m2 e2] :: .tuple #[.pointer (some ⟨C.b, 0, none⟩), .int .i64 0] :: .pointer (some ⟨C.b, 0, none⟩) :: .int .i64 0 :: .agg #[.slice a n c, .slice b m d] :: .bool true :: .bool false :: undef :: undef :: undef :: undef :: undef :: undef :: undef :: undef :: undef :: .pointer (some ⟨C.b, 0, none⟩) :: .bool false :: .pointer (some ⟨w.heap.size, 1, none⟩) :: .slice b m d :: .int .i64 m :: .slice (some ⟨gA, 0, none⟩) m m :: .pointer (some ⟨w.heap.size, 1, none⟩) :: .slice b m d :: .int .i64 m :: .slice (some ⟨gB, 0, none⟩) m m :: .agg #[.slice (some ⟨gA, 0, none⟩) m m, .slice (some ⟨gB, 0, none⟩) m m] :: undef :: undef :: undef :: undef :: undef :: undef :: undef :: undef :: undef :: undef :: undef :: undef :: undef :: undef :: undef :: undef :: undef :: undef :: undef :: undef :: undef :: undef :: undef :: undef :: undef :: undef :: undef :: undef :: undef :: undef :: undef :: undef :: undef :: undef :: undef :: undef :: undef :: undef :: undef :: undef :: undef :: undef :: undef :: undef :: undef :: undef :: undef :: undef :: undef :: undef :: undef :: undef :: undef :: undef :: undef :: undef :: undef :: undef :: undef :: undef :: undef :: undef :: undef :: undef :: undef :: undef :: undef :: undef :: undef :: undef :: undef :: undef :: undef :: undef :: undef :: undef :: undef :: undef :: undef :: undef :: undef :: undef :: undef :: undef :: undef :: undef :: undef :: undef :: undef :: undef :: undef :: undef :: undef :: undef :: undef :: undef :: undef :: undef :: undef :: undef :: undef :: undef :: undef :: undef :: undef :: undef :: undef :: undef :: undef :: undef :: undef :: undef :: undef :: undef :: undef :: undef :: undef :: undef :: undef :: undef :: undef :: undef :: undef :: undef :: undef :: undef :: []), defers := [] } : Act) ∧ SN w4 gS gA gB m (cntD (whoOf g.es false) 0) (cntD (whoOf g.es true) 0) x)) := ⟨_, hidden fun _ _ => Iff.rfl⟩
    refine wp_only R ?h ?hq
    case h =>
      refine wp_region_parts (S := (fun z => z.cell? ⟨w.heap.size, 0, none⟩ = some (.slice a n c) ∧ z.cell? ⟨w.heap.size, 1, none⟩ = some (.slice b m d))) #[false, false, false, false, false, false, false, false, false, false, true] #[true, true, true, true, true, true, true, true, true, true, false] [10] 40 10 (by kernel_rfl) (by kernel_rfl) (by kernel_rfl) (by rfl) ?_ (fun hHeld => ?_)
      · go_keep
      first
        | (refine wpAnyH_take (i := 0) (v := ?_) at0 (by kernel_rfl) (by kernel_rfl) (by kernel_rfl) (fun _ _ _ h => h) (Or.inl ⟨by rfl, ?_⟩) (by assumption) ?_
           rotate_left
           · intro w hSw; (try dsimp only at hSw); go_simp; try with_reducible rfl)
        | fail "take 0"
      try simp only [Act.put, List.setIfInBounds_toArray, List.set_cons_zero, List.set_cons_succ]
      first
        | (refine wpAnyH_take (i := 1) (v := ?_) at1 (by kernel_rfl) (by kernel_rfl) (by kernel_rfl) (fun _ _ _ h => h) (Or.inl ⟨by rfl, ?_⟩) (by assumption) ?_
           rotate_left
           · intro w hSw; (try dsimp only at hSw); go_simp; try with_reducible rfl)
        | fail "take 1"
      try simp only [Act.put, List.setIfInBounds_toArray, List.set_cons_zero, List.set_cons_succ]
      first
        | (refine wpAnyH_take (i := 2) (v := ?_) at2 (by kernel_rfl) (by kernel_rfl) (by kernel_rfl) (fun _ _ _ h => h) (Or.inl ⟨by rfl, ?_⟩) (by assumption) ?_
           rotate_left
           · intro w hSw; (try dsimp only at hSw); go_simp; try with_reducible rfl)
        | fail "take 2"
      try simp only [Act.put, List.setIfInBounds_toArray, List.set_cons_zero, List.set_cons_succ]
      first
        | (refine wpAnyH_take (i := 4) (v := ?_) at4 (by kernel_rfl) (by kernel_rfl) (by kernel_rfl) (fun _ _ _ h => h) (Or.inl ⟨by rfl, ?_⟩) (by assumption) ?_
           rotate_left
           · intro w hSw; (try dsimp only at hSw); go_simp; try with_reducible rfl)
        | fail "take 4"
      try simp only [Act.put, List.setIfInBounds_toArray, List.set_cons_zero, List.set_cons_succ]
      first
        | (refine wpAnyH_take (i := 5) (v := ?_) at5 (by kernel_rfl) (by kernel_rfl) (by kernel_rfl) (fun _ _ _ h => h) (Or.inl ⟨by rfl, ?_⟩) (by assumption) ?_
           rotate_left
           · intro w hSw; (try dsimp only at hSw); go_simp; try with_reducible rfl)
        | fail "take 5"
      try simp only [Act.put, List.setIfInBounds_toArray, List.set_cons_zero, List.set_cons_succ]
      first
        | (refine wpAnyH_take (i := 6) (v := ?_) at6 (by kernel_rfl) (by kernel_rfl) (by kernel_rfl) (fun _ _ _ h => h) (Or.inl ⟨by rfl, ?_⟩) (by assumption) ?_
           rotate_left
           · intro w hSw; (try dsimp only at hSw); go_simp; try with_reducible rfl)
        | fail "take 6"
      try simp only [Act.put, List.setIfInBounds_toArray, List.set_cons_zero, List.set_cons_succ]
      refine wpAnyH_ready (rs := [3, 7, 9]) (by kernel_rfl) (by simp) ?_
      refine AllReadyH.cons (i := 3) at3 (fun K hK => ?_) ?_
      · refine step_make_full rfl (.tmp 45) (.tmp 45) 54 rfl w4.heap.size 3 ii (.int .i64 0) 1 Try.underlying54 hii hi0 hi1 .i64 .i64 m (by simp [Act.eval]) (by simp [Act.eval]) (by rw [hi2]; omega) (by unfold maxLen; omega) (Below.size ((Below.refl w4.heap.size w4).drew)) ?_
        intro y1 hown hgrow
        have hr3 : Hid (World.ownsRow y1 w4.heap.size 3 1 (.slice (some ⟨w4.heap.size, 0, none⟩) m m) m (List.replicate m (.int .i64 0))) := hidden (by rw [← made_zero]; exact hown)
        have hbn : Below w4.drew.heap.size w4.drew y1 := (Below.refl _ _).grown hgrow (Nat.le_refl _) (fun j hj => by cases hj)
        have hlt1 := (hown.lt w4.heap.size rfl).2
        have kk1 : Hid (Below w4.heap.size w4 y1) := Below.trans ((Below.refl w4.heap.size w4).drew) (hbn.mono (Below.size ((Below.refl w4.heap.size w4).drew)))
        obtain ⟨hSn, -⟩ := box2f (box_below hX2'.out (k4.out.trans (kk1.out.mono k4.out.size)))
        clear hbn hown hgrow
        refine hK.out _ _ ?_ (fun hNew => ?_)
        · exact hSn
        clear hK K hHeld
        have hHeld := hNew
        clear hNew
        try simp only [Act.put, List.setIfInBounds_toArray, List.set_cons_zero, List.set_cons_succ]
        refine wpAnyH_ready (rs := [7, 9]) (by kernel_rfl) (by simp) ?_
        refine AllReadyH.cons (i := 7) at7 (fun K hK => ?_) ?_
        · refine step_make_full rfl (.tmp 49) (.tmp 49) 54 rfl w4.heap.size 3 ii (.int .i64 0) 1 Try.underlying54 hii hi0 hi1 .i64 .i64 m (by simp [Act.eval]) (by simp [Act.eval]) (by rw [hi2]; omega) (by unfold maxLen; omega) (Below.size (kk1.out)) ?_
          intro y2 hown hgrow
          have hr7 : Hid (World.ownsRow y2 w4.heap.size 3 1 (.slice (some ⟨y1.heap.size, 0, none⟩) m m) m (List.replicate m (.int .i64 0))) := hidden (by rw [← made_zero]; exact hown)
          have hbn : Below y1.heap.size y1 y2 := (Below.refl _ _).grown hgrow (Nat.le_refl _) (fun j hj => by cases hj)
          have hlt2 := (hown.lt y1.heap.size rfl).2
          have kk2 : Hid (Below w4.heap.size w4 y2) := Below.trans (kk1.out) (hbn.mono (Below.size (kk1.out)))
          replace hr3 := hidden (owns_keep hr3.out hbn)
          obtain ⟨hSn, -⟩ := box2f (box_below hX2'.out (k4.out.trans (kk2.out.mono k4.out.size)))
          clear hbn hown hgrow
          refine hK.out _ _ ?_ (fun hNew => ?_)
          · exact hSn
          clear hK K hHeld
          have hHeld := hNew
          clear hNew
          try simp only [Act.put, List.setIfInBounds_toArray, List.set_cons_zero, List.set_cons_succ]
          first
            | (refine wpAnyH_take (i := 8) (v := ?_) at8 (by kernel_rfl) (by kernel_rfl) (by kernel_rfl) (fun _ _ _ h => h) (Or.inl ⟨by rfl, ?_⟩) (by assumption) ?_
               rotate_left
               · intro w hSw; (try dsimp only at hSw); go_simp; try with_reducible rfl)
            | fail "take 8"
          try simp only [Act.put, List.setIfInBounds_toArray, List.set_cons_zero, List.set_cons_succ]
          refine wpAnyH_ready (rs := [9]) (by kernel_rfl) (by simp) ?_
          refine AllReadyH.cons (i := 9) at9 (fun K hK => ?_) ?_
          · go_simp
            generalize hz : World.alloc y2 (.cells #[.slice none 0 0, .slice none 0 0] 55) = y3
            have hbn : Below y2.heap.size y2 y3 := by
              rw [← hz]
              first | exact (Below.refl _ _).alloc (Nat.le_refl _) _ | exact ((Below.refl _ _).alloc (Nat.le_refl _) _).drew
            have hbx : Hid (y3.heap[y2.heap.size]? = some (.cells #[.slice none 0 0, .slice none 0 0] 55)) := hidden (by rw [← hz]; exact heap_alloc_new _ _)
            have hlt3 := (Array.getElem?_eq_some_iff.1 hbx.out).1
            have kk3 : Hid (Below w4.heap.size w4 y3) := Below.trans (kk2.out) (hbn.mono (Below.size (kk2.out)))
            clear hz
            replace hr3 := hidden (owns_keep hr3.out hbn)
            replace hr7 := hidden (owns_keep hr7.out hbn)
            obtain ⟨hSn, -⟩ := box2f (box_below hX2'.out (k4.out.trans (kk3.out.mono k4.out.size)))
            clear hbn
            refine hK.out _ _ ?_ (fun hNew => ?_)
            · exact hSn
            clear hK K hHeld
            have hHeld := hNew
            clear hNew
            try simp only [List.setIfInBounds_toArray, List.set_cons_zero, List.set_cons_succ]
            refine tail_list (is := [10]) (l := _) (by kernel_rfl) (by kernel_rfl) (by kernel_rfl) rfl ?_
            simp only [List.filterMap_cons, List.filterMap_nil, at10]
            show wpList _ _ _ (_ :: _) _ _
            have hne : w4.heap.size ≠ y1.heap.size := by have := kk1.out.size; have := kk2.out.size; omega
            obtain ⟨⟨z0, z1⟩, f0, f1⟩ := box2f hbx.out
            go_wp2
            exact (hR.out _ _).2 ⟨_, _, _, rfl, SN.mkS kk3.out hbx.out hr3.out hr7.out hne (by have := kk1.out.size; have := kk2.out.size; omega) (cntD_zero _ _) (cntD_zero _ _)⟩
          exact AllReadyH.nil
        refine AllReadyH.cons (i := 9) at9 (fun K hK => ?_) ?_
        · go_simp
          generalize hz : World.alloc y1 (.cells #[.slice none 0 0, .slice none 0 0] 55) = y2
          have hbn : Below y1.heap.size y1 y2 := by
            rw [← hz]
            first | exact (Below.refl _ _).alloc (Nat.le_refl _) _ | exact ((Below.refl _ _).alloc (Nat.le_refl _) _).drew
          have hbx : Hid (y2.heap[y1.heap.size]? = some (.cells #[.slice none 0 0, .slice none 0 0] 55)) := hidden (by rw [← hz]; exact heap_alloc_new _ _)
          have hlt2 := (Array.getElem?_eq_some_iff.1 hbx.out).1
          have kk2 : Hid (Below w4.heap.size w4 y2) := Below.trans (kk1.out) (hbn.mono (Below.size (kk1.out)))
          clear hz
          replace hr3 := hidden (owns_keep hr3.out hbn)
          obtain ⟨hSn, -⟩ := box2f (box_below hX2'.out (k4.out.trans (kk2.out.mono k4.out.size)))
          clear hbn
          refine hK.out _ _ ?_ (fun hNew => ?_)
          · exact hSn
          clear hK K hHeld
          have hHeld := hNew
          clear hNew
          try simp only [List.setIfInBounds_toArray, List.set_cons_zero, List.set_cons_succ]
          refine wpAnyH_ready (rs := [7]) (by kernel_rfl) (by simp) ?_
          refine AllReadyH.cons (i := 7) at7 (fun K hK => ?_) ?_
          · refine step_make_full rfl (.tmp 49) (.tmp 49) 54 rfl w4.heap.size 3 ii (.int .i64 0) 1 Try.underlying54 hii hi0 hi1 .i64 .i64 m (by simp [Act.eval]) (by simp [Act.eval]) (by rw [hi2]; omega) (by unfold maxLen; omega) (Below.size (kk2.out)) ?_
            intro y3 hown hgrow
            have hr7 : Hid (World.ownsRow y3 w4.heap.size 3 1 (.slice (some ⟨y2.heap.size, 0, none⟩) m m) m (List.replicate m (.int .i64 0))) := hidden (by rw [← made_zero]; exact hown)
            have hbn : Below y2.heap.size y2 y3 := (Below.refl _ _).grown hgrow (Nat.le_refl _) (fun j hj => by cases hj)
            have hlt3 := (hown.lt y2.heap.size rfl).2
            have kk3 : Hid (Below w4.heap.size w4 y3) := Below.trans (kk2.out) (hbn.mono (Below.size (kk2.out)))
            replace hr3 := hidden (owns_keep hr3.out hbn)
            replace hbx := hidden (box_below hbx.out hbn)
            obtain ⟨hSn, -⟩ := box2f (box_below hX2'.out (k4.out.trans (kk3.out.mono k4.out.size)))
            clear hbn hown hgrow
            refine hK.out _ _ ?_ (fun hNew => ?_)
            · exact hSn
            clear hK K hHeld
            have hHeld := hNew
            clear hNew
            try simp only [Act.put, List.setIfInBounds_toArray, List.set_cons_zero, List.set_cons_succ]
            first
              | (refine wpAnyH_take (i := 8) (v := ?_) at8 (by kernel_rfl) (by kernel_rfl) (by kernel_rfl) (fun _ _ _ h => h) (Or.inl ⟨by rfl, ?_⟩) (by assumption) ?_
                 rotate_left
                 · intro w hSw; (try dsimp only at hSw); go_simp; try with_reducible rfl)
              | fail "take 8"
            try simp only [Act.put, List.setIfInBounds_toArray, List.set_cons_zero, List.set_cons_succ]
            refine tail_list (is := [10]) (l := _) (by kernel_rfl) (by kernel_rfl) (by kernel_rfl) rfl ?_
            simp only [List.filterMap_cons, List.filterMap_nil, at10]
            show wpList _ _ _ (_ :: _) _ _
            have hne : w4.heap.size ≠ y2.heap.size := by have := kk1.out.size; have := kk2.out.size; omega
            obtain ⟨⟨z0, z1⟩, f0, f1⟩ := box2f hbx.out
            go_wp2
            exact (hR.out _ _).2 ⟨_, _, _, rfl, SN.mkS kk3.out hbx.out hr3.out hr7.out hne (by have := kk1.out.size; have := kk2.out.size; omega) (cntD_zero _ _) (cntD_zero _ _)⟩
          exact AllReadyH.nil
        exact AllReadyH.nil
      refine AllReadyH.cons (i := 7) at7 (fun K hK => ?_) ?_
      · refine step_make_full rfl (.tmp 49) (.tmp 49) 54 rfl w4.heap.size 3 ii (.int .i64 0) 1 Try.underlying54 hii hi0 hi1 .i64 .i64 m (by simp [Act.eval]) (by simp [Act.eval]) (by rw [hi2]; omega) (by unfold maxLen; omega) (Below.size ((Below.refl w4.heap.size w4).drew)) ?_
        intro y1 hown hgrow
        have hr7 : Hid (World.ownsRow y1 w4.heap.size 3 1 (.slice (some ⟨w4.heap.size, 0, none⟩) m m) m (List.replicate m (.int .i64 0))) := hidden (by rw [← made_zero]; exact hown)
        have hbn : Below w4.drew.heap.size w4.drew y1 := (Below.refl _ _).grown hgrow (Nat.le_refl _) (fun j hj => by cases hj)
        have hlt1 := (hown.lt w4.heap.size rfl).2
        have kk1 : Hid (Below w4.heap.size w4 y1) := Below.trans ((Below.refl w4.heap.size w4).drew) (hbn.mono (Below.size ((Below.refl w4.heap.size w4).drew)))
        obtain ⟨hSn, -⟩ := box2f (box_below hX2'.out (k4.out.trans (kk1.out.mono k4.out.size)))
        clear hbn hown hgrow
        refine hK.out _ _ ?_ (fun hNew => ?_)
        · exact hSn
        clear hK K hHeld
        have hHeld := hNew
        clear hNew
        try simp only [Act.put, List.setIfInBounds_toArray, List.set_cons_zero, List.set_cons_succ]
        refine wpAnyH_ready (rs := [3, 9]) (by kernel_rfl) (by simp) ?_
        refine AllReadyH.cons (i := 3) at3 (fun K hK => ?_) ?_
        · refine step_make_full rfl (.tmp 45) (.tmp 45) 54 rfl w4.heap.size 3 ii (.int .i64 0) 1 Try.underlying54 hii hi0 hi1 .i64 .i64 m (by simp [Act.eval]) (by simp [Act.eval]) (by rw [hi2]; omega) (by unfold maxLen; omega) (Below.size (kk1.out)) ?_
          intro y2 hown hgrow
          have hr3 : Hid (World.ownsRow y2 w4.heap.size 3 1 (.slice (some ⟨y1.heap.size, 0, none⟩) m m) m (List.replicate m (.int .i64 0))) := hidden (by rw [← made_zero]; exact hown)
          have hbn : Below y1.heap.size y1 y2 := (Below.refl _ _).grown hgrow (Nat.le_refl _) (fun j hj => by cases hj)
          have hlt2 := (hown.lt y1.heap.size rfl).2
          have kk2 : Hid (Below w4.heap.size w4 y2) := Below.trans (kk1.out) (hbn.mono (Below.size (kk1.out)))
          replace hr7 := hidden (owns_keep hr7.out hbn)
          obtain ⟨hSn, -⟩ := box2f (box_below hX2'.out (k4.out.trans (kk2.out.mono k4.out.size)))
          clear hbn hown hgrow
          refine hK.out _ _ ?_ (fun hNew => ?_)
          · exact hSn
          clear hK K hHeld
          have hHeld := hNew
          clear hNew
          try simp only [Act.put, List.setIfInBounds_toArray, List.set_cons_zero, List.set_cons_succ]
          first
            | (refine wpAnyH_take (i := 8) (v := ?_) at8 (by kernel_rfl) (by kernel_rfl) (by kernel_rfl) (fun _ _ _ h => h) (Or.inl ⟨by rfl, ?_⟩) (by assumption) ?_
               rotate_left
               · intro w hSw; (try dsimp only at hSw); go_simp; try with_reducible rfl)
            | fail "take 8"
          try simp only [Act.put, List.setIfInBounds_toArray, List.set_cons_zero, List.set_cons_succ]
          refine wpAnyH_ready (rs := [9]) (by kernel_rfl) (by simp) ?_
          refine AllReadyH.cons (i := 9) at9 (fun K hK => ?_) ?_
          · go_simp
            generalize hz : World.alloc y2 (.cells #[.slice none 0 0, .slice none 0 0] 55) = y3
            have hbn : Below y2.heap.size y2 y3 := by
              rw [← hz]
              first | exact (Below.refl _ _).alloc (Nat.le_refl _) _ | exact ((Below.refl _ _).alloc (Nat.le_refl _) _).drew
            have hbx : Hid (y3.heap[y2.heap.size]? = some (.cells #[.slice none 0 0, .slice none 0 0] 55)) := hidden (by rw [← hz]; exact heap_alloc_new _ _)
            have hlt3 := (Array.getElem?_eq_some_iff.1 hbx.out).1
            have kk3 : Hid (Below w4.heap.size w4 y3) := Below.trans (kk2.out) (hbn.mono (Below.size (kk2.out)))
            clear hz
            replace hr7 := hidden (owns_keep hr7.out hbn)
            replace hr3 := hidden (owns_keep hr3.out hbn)
            obtain ⟨hSn, -⟩ := box2f (box_below hX2'.out (k4.out.trans (kk3.out.mono k4.out.size)))
            clear hbn
            refine hK.out _ _ ?_ (fun hNew => ?_)
            · exact hSn
            clear hK K hHeld
            have hHeld := hNew
            clear hNew
            try simp only [List.setIfInBounds_toArray, List.set_cons_zero, List.set_cons_succ]
            refine tail_list (is := [10]) (l := _) (by kernel_rfl) (by kernel_rfl) (by kernel_rfl) rfl ?_
            simp only [List.filterMap_cons, List.filterMap_nil, at10]
            show wpList _ _ _ (_ :: _) _ _
            have hne : y1.heap.size ≠ w4.heap.size := by have := kk1.out.size; have := kk2.out.size; omega
            obtain ⟨⟨z0, z1⟩, f0, f1⟩ := box2f hbx.out
            go_wp2
            exact (hR.out _ _).2 ⟨_, _, _, rfl, SN.mkS kk3.out hbx.out hr3.out hr7.out hne (by have := kk1.out.size; have := kk2.out.size; omega) (cntD_zero _ _) (cntD_zero _ _)⟩
          exact AllReadyH.nil
        refine AllReadyH.cons (i := 9) at9 (fun K hK => ?_) ?_
        · go_simp
          generalize hz : World.alloc y1 (.cells #[.slice none 0 0, .slice none 0 0] 55) = y2
          have hbn : Below y1.heap.size y1 y2 := by
            rw [← hz]
            first | exact (Below.refl _ _).alloc (Nat.le_refl _) _ | exact ((Below.refl _ _).alloc (Nat.le_refl _) _).drew
          have hbx : Hid (y2.heap[y1.heap.size]? = some (.cells #[.slice none 0 0, .slice none 0 0] 55)) := hidden (by rw [← hz]; exact heap_alloc_new _ _)
          have hlt2 := (Array.getElem?_eq_some_iff.1 hbx.out).1
          have kk2 : Hid (Below w4.heap.size w4 y2) := Below.trans (kk1.out) (hbn.mono (Below.size (kk1.out)))
          clear hz
          replace hr7 := hidden (owns_keep hr7.out hbn)
          obtain ⟨hSn, -⟩ := box2f (box_below hX2'.out (k4.out.trans (kk2.out.mono k4.out.size)))
          clear hbn
          refine hK.out _ _ ?_ (fun hNew => ?_)
          · exact hSn
          clear hK K hHeld
          have hHeld := hNew
          clear hNew
          try simp only [List.setIfInBounds_toArray, List.set_cons_zero, List.set_cons_succ]
          refine wpAnyH_ready (rs := [3]) (by kernel_rfl) (by simp) ?_
          refine AllReadyH.cons (i := 3) at3 (fun K hK => ?_) ?_
          · refine step_make_full rfl (.tmp 45) (.tmp 45) 54 rfl w4.heap.size 3 ii (.int .i64 0) 1 Try.underlying54 hii hi0 hi1 .i64 .i64 m (by simp [Act.eval]) (by simp [Act.eval]) (by rw [hi2]; omega) (by unfold maxLen; omega) (Below.size (kk2.out)) ?_
            intro y3 hown hgrow
            have hr3 : Hid (World.ownsRow y3 w4.heap.size 3 1 (.slice (some ⟨y2.heap.size, 0, none⟩) m m) m (List.replicate m (.int .i64 0))) := hidden (by rw [← made_zero]; exact hown)
            have hbn : Below y2.heap.size y2 y3 := (Below.refl _ _).grown hgrow (Nat.le_refl _) (fun j hj => by cases hj)
            have hlt3 := (hown.lt y2.heap.size rfl).2
            have kk3 : Hid (Below w4.heap.size w4 y3) := Below.trans (kk2.out) (hbn.mono (Below.size (kk2.out)))
            replace hr7 := hidden (owns_keep hr7.out hbn)
            replace hbx := hidden (box_below hbx.out hbn)
            obtain ⟨hSn, -⟩ := box2f (box_below hX2'.out (k4.out.trans (kk3.out.mono k4.out.size)))
            clear hbn hown hgrow
            refine hK.out _ _ ?_ (fun hNew => ?_)
            · exact hSn
            clear hK K hHeld
            have hHeld := hNew
            clear hNew
            try simp only [Act.put, List.setIfInBounds_toArray, List.set_cons_zero, List.set_cons_succ]
            first
              | (refine wpAnyH_take (i := 8) (v := ?_) at8 (by kernel_rfl) (by kernel_rfl) (by kernel_rfl) (fun _ _ _ h => h) (Or.inl ⟨by rfl, ?_⟩) (by assumption) ?_
                 rotate_left
                 · intro w hSw; (try dsimp only at hSw); go_simp; try with_reducible rfl)
              | fail "take 8"
            try simp only [Act.put, List.setIfInBounds_toArray, List.set_cons_zero, List.set_cons_succ]
            refine tail_list (is := [10]) (l := _) (by kernel_rfl) (by kernel_rfl) (by kernel_rfl) rfl ?_
            simp only [List.filterMap_cons, List.filterMap_nil, at10]
            show wpList _ _ _ (_ :: _) _ _
            have hne : y2.heap.size ≠ w4.heap.size := by have := kk1.out.size; have := kk2.out.size; omega
            obtain ⟨⟨z0, z1⟩, f0, f1⟩ := box2f hbx.out
            go_wp2
            exact (hR.out _ _).2 ⟨_, _, _, rfl, SN.mkS kk3.out hbx.out hr3.out hr7.out hne (by have := kk1.out.size; have := kk2.out.size; omega) (cntD_zero _ _) (cntD_zero _ _)⟩
          exact AllReadyH.nil
        exact AllReadyH.nil
      refine AllReadyH.cons (i := 9) at9 (fun K hK => ?_) ?_
      · go_simp
        generalize hz : World.drew (World.alloc w4 (.cells #[.slice none 0 0, .slice none 0 0] 55)) = y1
        have hbn : Below w4.drew.heap.size w4.drew y1 := by
          rw [← hz]
          first | exact (Below.refl _ _).alloc (Nat.le_refl _) _ | exact ((Below.refl _ _).alloc (Nat.le_refl _) _).drew
        have hbx : Hid (y1.heap[w4.heap.size]? = some (.cells #[.slice none 0 0, .slice none 0 0] 55)) := hidden (by rw [← hz]; exact heap_alloc_new _ _)
        have hlt1 := (Array.getElem?_eq_some_iff.1 hbx.out).1
        have kk1 : Hid (Below w4.heap.size w4 y1) := Below.trans ((Below.refl w4.heap.size w4).drew) (hbn.mono (Below.size ((Below.refl w4.heap.size w4).drew)))
        clear hz
        obtain ⟨hSn, -⟩ := box2f (box_below hX2'.out (k4.out.trans (kk1.out.mono k4.out.size)))
        clear hbn
        refine hK.out _ _ ?_ (fun hNew => ?_)
        · exact hSn
        clear hK K hHeld
        have hHeld := hNew
        clear hNew
        try simp only [List.setIfInBounds_toArray, List.set_cons_zero, List.set_cons_succ]
        refine wpAnyH_ready (rs := [3, 7]) (by kernel_rfl) (by simp) ?_
        refine AllReadyH.cons (i := 3) at3 (fun K hK => ?_) ?_
        · refine step_make_full rfl (.tmp 45) (.tmp 45) 54 rfl w4.heap.size 3 ii (.int .i64 0) 1 Try.underlying54 hii hi0 hi1 .i64 .i64 m (by simp [Act.eval]) (by simp [Act.eval]) (by rw [hi2]; omega) (by unfold maxLen; omega) (Below.size (kk1.out)) ?_
          intro y2 hown hgrow
          have hr3 : Hid (World.ownsRow y2 w4.heap.size 3 1 (.slice (some ⟨y1.heap.size, 0, none⟩) m m) m (List.replicate m (.int .i64 0))) := hidden (by rw [← made_zero]; exact hown)
          have hbn : Below y1.heap.size y1 y2 := (Below.refl _ _).grown hgrow (Nat.le_refl _) (fun j hj => by cases hj)
          have hlt2 := (hown.lt y1.heap.size rfl).2
          have kk2 : Hid (Below w4.heap.size w4 y2) := Below.trans (kk1.out) (hbn.mono (Below.size (kk1.out)))
          replace hbx := hidden (box_below hbx.out hbn)
          obtain ⟨hSn, -⟩ := box2f (box_below hX2'.out (k4.out.trans (kk2.out.mono k4.out.size)))
          clear hbn hown hgrow
          refine hK.out _ _ ?_ (fun hNew => ?_)
          · exact hSn
          clear hK K hHeld
          have hHeld := hNew
          clear hNew
          try simp only [Act.put, List.setIfInBounds_toArray, List.set_cons_zero, List.set_cons_succ]
          refine wpAnyH_ready (rs := [7]) (by kernel_rfl) (by simp) ?_
          refine AllReadyH.cons (i := 7) at7 (fun K hK => ?_) ?_
          · refine step_make_full rfl (.tmp 49) (.tmp 49) 54 rfl w4.heap.size 3 ii (.int .i64 0) 1 Try.underlying54 hii hi0 hi1 .i64 .i64 m (by simp [Act.eval]) (by simp [Act.eval]) (by rw [hi2]; omega) (by unfold maxLen; omega) (Below.size (kk2.out)) ?_
            intro y3 hown hgrow
            have hr7 : Hid (World.ownsRow y3 w4.heap.size 3 1 (.slice (some ⟨y2.heap.size, 0, none⟩) m m) m (List.replicate m (.int .i64 0))) := hidden (by rw [← made_zero]; exact hown)
            have hbn : Below y2.heap.size y2 y3 := (Below.refl _ _).grown hgrow (Nat.le_refl _) (fun j hj => by cases hj)
            have hlt3 := (hown.lt y2.heap.size rfl).2
            have kk3 : Hid (Below w4.heap.size w4 y3) := Below.trans (kk2.out) (hbn.mono (Below.size (kk2.out)))
            replace hbx := hidden (box_below hbx.out hbn)
            replace hr3 := hidden (owns_keep hr3.out hbn)
            obtain ⟨hSn, -⟩ := box2f (box_below hX2'.out (k4.out.trans (kk3.out.mono k4.out.size)))
            clear hbn hown hgrow
            refine hK.out _ _ ?_ (fun hNew => ?_)
            · exact hSn
            clear hK K hHeld
            have hHeld := hNew
            clear hNew
            try simp only [Act.put, List.setIfInBounds_toArray, List.set_cons_zero, List.set_cons_succ]
            first
              | (refine wpAnyH_take (i := 8) (v := ?_) at8 (by kernel_rfl) (by kernel_rfl) (by kernel_rfl) (fun _ _ _ h => h) (Or.inl ⟨by rfl, ?_⟩) (by assumption) ?_
                 rotate_left
                 · intro w hSw; (try dsimp only at hSw); go_simp; try with_reducible rfl)
              | fail "take 8"
            try simp only [Act.put, List.setIfInBounds_toArray, List.set_cons_zero, List.set_cons_succ]
            refine tail_list (is := [10]) (l := _) (by kernel_rfl) (by kernel_rfl) (by kernel_rfl) rfl ?_
            simp only [List.filterMap_cons, List.filterMap_nil, at10]
            show wpList _ _ _ (_ :: _) _ _
            have hne : y1.heap.size ≠ y2.heap.size := by have := kk1.out.size; have := kk2.out.size; omega
            obtain ⟨⟨z0, z1⟩, f0, f1⟩ := box2f hbx.out
            go_wp2
            exact (hR.out _ _).2 ⟨_, _, _, rfl, SN.mkS kk3.out hbx.out hr3.out hr7.out hne (by have := kk1.out.size; have := kk2.out.size; omega) (cntD_zero _ _) (cntD_zero _ _)⟩
          exact AllReadyH.nil
        refine AllReadyH.cons (i := 7) at7 (fun K hK => ?_) ?_
        · refine step_make_full rfl (.tmp 49) (.tmp 49) 54 rfl w4.heap.size 3 ii (.int .i64 0) 1 Try.underlying54 hii hi0 hi1 .i64 .i64 m (by simp [Act.eval]) (by simp [Act.eval]) (by rw [hi2]; omega) (by unfold maxLen; omega) (Below.size (kk1.out)) ?_
          intro y2 hown hgrow
          have hr7 : Hid (World.ownsRow y2 w4.heap.size 3 1 (.slice (some ⟨y1.heap.size, 0, none⟩) m m) m (List.replicate m (.int .i64 0))) := hidden (by rw [← made_zero]; exact hown)
          have hbn : Below y1.heap.size y1 y2 := (Below.refl _ _).grown hgrow (Nat.le_refl _) (fun j hj => by cases hj)
          have hlt2 := (hown.lt y1.heap.size rfl).2
          have kk2 : Hid (Below w4.heap.size w4 y2) := Below.trans (kk1.out) (hbn.mono (Below.size (kk1.out)))
          replace hbx := hidden (box_below hbx.out hbn)
          obtain ⟨hSn, -⟩ := box2f (box_below hX2'.out (k4.out.trans (kk2.out.mono k4.out.size)))
          clear hbn hown hgrow
          refine hK.out _ _ ?_ (fun hNew => ?_)
          · exact hSn
          clear hK K hHeld
          have hHeld := hNew
          clear hNew
          try simp only [Act.put, List.setIfInBounds_toArray, List.set_cons_zero, List.set_cons_succ]
          refine wpAnyH_ready (rs := [3]) (by kernel_rfl) (by simp) ?_
          refine AllReadyH.cons (i := 3) at3 (fun K hK => ?_) ?_
          · refine step_make_full rfl (.tmp 45) (.tmp 45) 54 rfl w4.heap.size 3 ii (.int .i64 0) 1 Try.underlying54 hii hi0 hi1 .i64 .i64 m (by simp [Act.eval]) (by simp [Act.eval]) (by rw [hi2]; omega) (by unfold maxLen; omega) (Below.size (kk2.out)) ?_
            intro y3 hown hgrow
            have hr3 : Hid (World.ownsRow y3 w4.heap.size 3 1 (.slice (some ⟨y2.heap.size, 0, none⟩) m m) m (List.replicate m (.int .i64 0))) := hidden (by rw [← made_zero]; exact hown)
            have hbn : Below y2.heap.size y2 y3 := (Below.refl _ _).grown hgrow (Nat.le_refl _) (fun j hj => by cases hj)
            have hlt3 := (hown.lt y2.heap.size rfl).2
            have kk3 : Hid (Below w4.heap.size w4 y3) := Below.trans (kk2.out) (hbn.mono (Below.size (kk2.out)))
            replace hbx := hidden (box_below hbx.out hbn)
            replace hr7 := hidden (owns_keep hr7.out hbn)
            obtain ⟨hSn, -⟩ := box2f (box_below hX2'.out (k4.out.trans (kk3.out.mono k4.out.size)))
            clear hbn hown hgrow
            refine hK.out _ _ ?_ (fun hNew => ?_)
            · exact hSn
            clear hK K hHeld
            have hHeld := hNew
            clear hNew
            try simp only [Act.put, List.setIfInBounds_toArray, List.set_cons_zero, List.set_cons_succ]
            first
              | (refine wpAnyH_take (i := 8) (v := ?_) at8 (by kernel_rfl) (by kernel_rfl) (by kernel_rfl) (fun _ _ _ h => h) (Or.inl ⟨by rfl, ?_⟩) (by assumption) ?_
                 rotate_left
                 · intro w hSw; (try dsimp only at hSw); go_simp; try with_reducible rfl)
              | fail "take 8"
            try simp only [Act.put, List.setIfInBounds_toArray, List.set_cons_zero, List.set_cons_succ]
            refine tail_list (is := [10]) (l := _) (by kernel_rfl) (by kernel_rfl) (by kernel_rfl) rfl ?_
            simp only [List.filterMap_cons, List.filterMap_nil, at10]
            show wpList _ _ _ (_ :: _) _ _
            have hne : y2.heap.size ≠ y1.heap.size := by have := kk1.out.size; have := kk2.out.size; omega
            obtain ⟨⟨z0, z1⟩, f0, f1⟩ := box2f hbx.out
            go_wp2
            exact (hR.out _ _).2 ⟨_, _, _, rfl, SN.mkS kk3.out hbx.out hr3.out hr7.out hne (by have := kk1.out.size; have := kk2.out.size; omega) (cntD_zero _ _) (cntD_zero _ _)⟩
          exact AllReadyH.nil
        exact AllReadyH.nil
      exact AllReadyH.nil
    case hq =>
      intro a' x hx
      obtain ⟨gS, gA, gB, rfl, hT⟩ := (hR.out _ _).1 hx
      clear hx hR hSb b0 b1 hii hi0 hi1 hi2
      replace hT := hidden hT
      have hord : Hid (OrdC g C m) := hidden ⟨by rw [hgm.out]; exact hCs.out.o1, by rw [hgm.out]; exact hCs.out.o2⟩
      have hN9 : Hid (g.ns.length ≤ 1000) := hidden hsm.out.1
      have hM9 : Hid (g.es.length ≤ 1000) := hidden hsm.out.2.2.1
      have hXx : Hid (∀ z, Below w4.heap.size w4 z → z.heap[w.heap.size]? = some (.cells #[.slice a n c, .slice b m d] 25)) := hidden fun z hz => box_below hX2'.out (k4.out.trans (hz.mono k4.out.size))
      have hout : Hid (∀ (z : World) (k : Nat), Below w4.heap.size w4 z → k < n → Calls Try.prog 19 #[.pointer (some ⟨C.b, 0, none⟩), .int .i64 (k : Int)] z fun e w' => ∃ a' c', e = .returned (.slice a' (rowP g C k false).length c') ∧ w'.ownsRow 0 58 4 (.slice a' (rowP g C k false).length c') (rowP g C k false).length (arR.flat ((rowP g C k false).map fun p => (arcsL C.L g.es false).getD p Ar.none)) ∧ Below z.heap.size z w') := hidden fun z k hz hk => by
        have e : rowA g C false (k : Int) = (rowP g C k false).map fun p => (arcsL C.L g.es false).getD p Ar.none := by
          unfold rowA rowI rowP
          rw [if_pos ⟨by omega, by rw [← hgn.out]; omega⟩]; rfl
        have h := out_c g C _ (k : Int) z (hCs.out.step hz) hok hN9.out hM9.out
        rw [e, List.length_map] at h
        exact h.mono fun e w' ⟨a', c', h1, h2, h3⟩ => ⟨a', c', h1, own0 h2, h3⟩
      have hin : Hid (∀ (z : World) (k : Nat), Below w4.heap.size w4 z → k < n → Calls Try.prog 21 #[.pointer (some ⟨C.b, 0, none⟩), .int .i64 (k : Int)] z fun e w' => ∃ a' c', e = .returned (.slice a' (rowP g C k true).length c') ∧ w'.ownsRow 0 58 4 (.slice a' (rowP g C k true).length c') (rowP g C k true).length (arR.flat ((rowP g C k true).map fun p => (arcsL C.L g.es true).getD p Ar.none)) ∧ Below z.heap.size z w') := hidden fun z k hz hk => by
        have e : rowA g C true (k : Int) = (rowP g C k true).map fun p => (arcsL C.L g.es true).getD p Ar.none := by
          unfold rowA rowI rowP
          rw [if_pos ⟨by omega, by rw [← hgn.out]; omega⟩]; rfl
        have h := in_c g C _ (k : Int) z (hCs.out.step hz) hok hN9.out hM9.out
        rw [e, List.length_map] at h
        exact h.mono fun e w' ⟨a', c', h1, h2, h3⟩ => ⟨a', c', h1, own0 h2, h3⟩
      have hends : Hid (∀ (z : World) (k : Int), Below w4.heap.size w4 z → Calls Try.prog 26 #[.pointer (some ⟨C.b, 0, none⟩), .int .i64 k] z fun e w' => e = .returned (if 0 ≤ k ∧ k < g.es.length then .tuple #[.int .i64 (fromOf g.es k.toNat : Nat), .int .i64 (toOf g.es k.toNat : Nat), .bool true] else .tuple #[.int .i64 0, .int .i64 0, .bool false]) ∧ Below z.heap.size z w') := hidden fun z k hz => ends_c g C _ k z (hCs.out.step hz) hM9.out
      have hlen9 : Hid (∀ k bk, (rowP g C k bk).length ≤ 1000) := hidden fun k bk => by
        unfold rowP
        refine Nat.le_trans (part_len_le _ _ _) ?_
        have h1 := hord.out.o1.len
        have h2 := hord.out.o2.len
        cases bk
        · show C.l1.length ≤ _; omega
        · show C.l2.length ≤ _; omega
      have hge := hidden (good_edges hok)
      have hO4 : Hid (∀ z, Below w4.heap.size w4 z → RowAt z b (edgeR.flat g.es)) := hidden fun z hz => (hO2.out.below (k4.out.trans (hz.mono k4.out.size))).edge
      replace hok := hidden hok
      clear hCs
      go_wp2_with fail
      go_loopw [6] (fun i x => ∃ k : Nat, k ≤ n ∧ i = .int .i64 k ∧ Hid (SM w4 gS gA gB m g k 0 x)) (fun i _ => n - (intOf i).toNat)
      case atStart => exact ⟨0, Nat.zero_le _, rfl, hidden (by unfold SM; exact hT.out)⟩
      case round =>
        clear hT
        obtain ⟨k, hk, rfl, hT⟩ := hrel
        obtain ⟨⟨x0, x1⟩, -⟩ := box2f (hXx.out _ hT.out.kk)
        by_cases hlt : k < n
        · have hlt' : (k : Int) < (n : Int) := by omega
          have h5 := hout.out wr k hT.out.kk hlt
          go_wp2_with fail
          refine h5.mono ?_
          rintro e w5 ⟨aA, cA, rfl, hrA, hB5⟩
          have hT5 : Hid (SM w4 gS gA gB m g k 0 w5) := hidden (SN.step hT.out hB5)
          replace hrA := hidden hrA
          have h6 := hin.out w5 k (SN.kk hT5.out) hlt
          clear h5 hB5 hT x0 x1
          go_wp2_with fail
          refine h6.mono ?_
          rintro e w6 ⟨aB, cB, rfl, hrB, hB6⟩
          have hT6 : Hid (SM w4 gS gA gB m g k 0 w6) := hidden (SN.step hT5.out hB6)
          replace hrA := hidden (owns_keep hrA.out hB6)
          have hBA := (Below.refl w6.heap.size w6).alloc (Nat.le_refl _) (.cells #[.slice aA (rowP g C k false).length cA, .slice aB (rowP g C k true).length cB] 56)
          have hR7 : Hid (RowsAt g C k w6.heap.size aA cA aB cB (w6.alloc (.cells #[.slice aA (rowP g C k false).length cA, .slice aB (rowP g C k true).length cB] 56))) := hidden ⟨heap_alloc_new _ _, owns_keep hrA.out hBA, owns_keep hrB hBA⟩
          have hT7 : Hid (SM w4 gS gA gB m g k 0 (w6.alloc (.cells #[.slice aA (rowP g C k false).length cA, .slice aB (rowP g C k true).length cB] 56))) := hidden (SN.step hT6.out hBA)
          clear h6 hB6 hT5 hT6 hrA hrB hBA wr
          go_wp2_with fail
          generalize hw7 : w6.alloc (.cells #[.slice aA (rowP g C k false).length cA, .slice aB (rowP g C k true).length cB] 56) = w7 at hR7 hT7 ⊢
          clear hw7
          generalize w6.heap.size = gR at *
          go_loopw [8] (fun j x => ∃ q : Nat, q ≤ 2 ∧ j = .int .i64 q ∧ Hid (SM w4 gS gA gB m g k q x) ∧ Hid (RowsAt g C k gR aA cA aB cB x)) (fun j _ => 2 - (intOf j).toNat)
          case atStart => exact ⟨0, by omega, rfl, hT7, hR7⟩
          case round =>
            clear hT7 hR7
            obtain ⟨q, hq, rfl, hT, hR⟩ := hrel
            by_cases hq2 : q < 2
            · obtain ⟨bk, hbk⟩ : ∃ bk : Bool, bk.toNat = q := by
                rcases (by omega : q = 0 ∨ q = 1) with rfl | rfl
                · exact ⟨false, rfl⟩
                · exact ⟨true, rfl⟩
              have hS0 : Hid (SQ w4 gS gA gB m g C k 0 wr bk) := hidden (SQ.start (by rw [hbk]; exact hT.out))
              have hdone : Hid (∀ z, SQ w4 gS gA gB m g C k (rowP g C k bk).length z bk → SM w4 gS gA gB m g k (q + 1) z) := hidden fun z hz => by
                have h := SQ.done hord.out hz
                rw [hbk] at h
                exact h
              have hcR : Hid (∀ z, RowsAt g C k gR aA cA aB cB z → z.cell? ⟨gR, q, none⟩ = some (.slice (selB bk aA aB) (rowP g C k bk).length (selB bk cA cB))) := hidden fun z hz => hbk ▸ hz.cell bk
              have hcS : Hid (∀ z i, SQ w4 gS gA gB m g C k i z bk → z.cell? ⟨gS, q, none⟩ = some (.slice (some ⟨selB bk gA gB, 0, none⟩) m m)) := hidden fun z i hz => by
                obtain ⟨FA, FB, hs⟩ := hz.sn
                exact hbk ▸ hs.cells bk
              replace hbk := hidden hbk
              have hq9 : (q : Int) < 2 := by omega
              have hln : (rowP g C k bk).length ≤ 1000 := hlen9.out k bk
              clear hT
              rename World => wq
              go_wp2_with fail
              go_loopw [9] (fun i x => ∃ r : Nat, r ≤ (rowP g C k bk).length ∧ i = .int .i64 r ∧ Hid (SQ w4 gS gA gB m g C k r x bk) ∧ Hid (RowsAt g C k gR aA cA aB cB x)) (fun i _ => (rowP g C k bk).length - (intOf i).toNat)
              case atStart => exact ⟨0, Nat.zero_le _, rfl, hS0, hR⟩
              case round =>
                clear hS0 hR
                obtain ⟨r, hr, rfl, hS, hR⟩ := hrel
                have y0 := hcR.out wr hR.out
                by_cases hrl : r < (rowP g C k bk).length
                · have hrl' : (r : Int) < ((rowP g C k bk).length : Int) := by omega
                  obtain ⟨p1, p2, p3, p4⟩ := SQ.put hord.out hS.out hrl
                  obtain ⟨b5, o5, hsel, y1⟩ := hR.out.ed bk hrl (by rw [← hgm.out]; exact p1)
                  have y2 := hcS.out wr r hS.out
                  obtain ⟨⟨x0, x1⟩, -⟩ := box2f (hXx.out _ (by obtain ⟨FA, FB, hs⟩ := hS.out.sn; exact hs.kk))
                  have hR2 := hidden (RowsAt.put (j := (rowP g C k bk).getD r 0) (u := .int .i64 1) hS.out hR.out)
                  rw [hsel] at y0
                  replace p4 := hidden p4
                  replace hsel := hidden hsel
                  clear hS hR
                  generalize (rowP g C k bk).getD r 0 = pp at *
                  generalize (rowP g C k bk).length = LL at *
                  generalize selB bk gA gB = gQ at *
                  have hp9 : (pp : Int) < (m : Int) := by omega
                  go_wp2
                  go_roundw
                  case rel => exact ⟨r + 1, by omega, by go_num, p4, hR2⟩
                  case measure => simp [intOf]; omega
                · have hrl' : ¬ (r : Int) < ((rowP g C k bk).length : Int) := by omega
                  obtain rfl : r = (rowP g C k bk).length := by omega
                  have hT8 := hidden (hdone.out _ hS.out)
                  clear hS
                  go_wp2
                  go_roundw
                  case rel => exact ⟨q + 1, by omega, by go_num, hT8, hR⟩
                  case measure => simp [intOf]; omega
            · obtain rfl : q = 2 := by omega
              have hT8 := hidden (SM.next hT.out)
              clear hT hR
              go_wp2
              go_roundw
              case rel => exact ⟨k + 1, by omega, by go_num, hT8⟩
              case measure => simp [intOf]; omega
        · have hlt' : ¬ (k : Int) < (n : Int) := by omega
          obtain rfl : k = n := by omega
          clear hout hin hlen9
          rename World => wq
          go_wp2_with fail
          clear x0 x1
          go_loopw [11] (fun i x => ∃ r : Nat, r ≤ m ∧ i = .int .i64 r ∧ Hid (SM w4 gS gA gB m g k 0 x)) (fun i _ => m - (intOf i).toNat)
          case atStart => exact ⟨0, Nat.zero_le _, rfl, hT⟩
          case round =>
            clear hT
            obtain ⟨r, hr, rfl, hT⟩ := hrel
            obtain ⟨⟨x0, x1⟩, -⟩ := box2f (hXx.out _ hT.out.kk)
            by_cases hrm : r < m
            · have hrm' : (r : Int) < (m : Int) := by omega
              have hrE : r < g.es.length := by rw [← hgm.out]; exact hrm
              have h5 := hends.out wr (r : Int) hT.out.kk
              rw [if_pos ⟨by omega, by omega⟩] at h5
              have hq := hge.out _ (getD_memG (d := Eg.none) hrE)
              have hqf : Hid ((g.es.getD r Eg.none).f = ((fromOf g.es r : Nat) : Int)) := hidden (by unfold fromOf; omega)
              have hqt : Hid ((g.es.getD r Eg.none).t = ((toOf g.es r : Nat) : Int)) := hidden (by unfold toOf; omega)
              have hone : Hid (∀ z, SM w4 gS gA gB m g k 0 z → z.cell? ⟨gA, r, none⟩ = some (.int .i64 1) ∧ z.cell? ⟨gB, r, none⟩ = some (.int .i64 1)) := hidden fun z hz => hz.one hrm (by have := hgn.out; unfold fromOf; omega) (by have := hgn.out; unfold toOf; omega)
              clear hq
              have hrt : Hid ((r : Int).toNat = r) := hidden rfl
              simp only [Int.toNat_natCast] at h5
              go_wp2_with fail
              refine h5.mono ?_
              rintro e w5 ⟨rfl, hB5⟩
              have hT5 : Hid (SM w4 gS gA gB m g k 0 w5) := hidden (SM.step hT.out hB5)
              obtain ⟨⟨x0, x1⟩, -⟩ := box2f (hXx.out _ (SN.kk hT5.out))
              obtain ⟨⟨s0, s1⟩, -⟩ := box2f (SN.sbox hT5.out)
              obtain ⟨o0, o1⟩ := hone.out _ hT5.out
              obtain ⟨b5, o5, rfl, hb5, e0, e1, e2, e3⟩ := edge_at (hO4.out _ (SN.kk hT5.out)) hrE
              rw [hqf.out] at e0
              rw [hqt.out] at e1
              clear h5 hB5 hT hone hqf hqt e2 e3 hrt
              generalize fromOf g.es r = vf at *
              generalize toOf g.es r = vt at *
              go_wp2
              go_roundw
              case rel => exact ⟨r + 1, by omega, by go_num, hT5⟩
              case measure => simp [intOf]; omega
            · have hrm' : ¬ (r : Int) < (m : Int) := by omega
              obtain rfl : r = m := by omega
              have h5 := hends.out wr (r : Int) hT.out.kk
              rw [if_neg (by have := hgm.out; omega)] at h5
              have h6 := fun z hz => hends.out z (-1) hz
              simp only [show ¬ ((0 : Int) ≤ -1 ∧ (-1 : Int) < (g.es.length : Int)) by omega, if_false] at h6
              replace h6 := hidden h6
              have hCy : Hid (∀ z, SM w4 gS gA gB r g k 0 z → GoX.Calm w z) := hidden fun z hz => .of_below ((hC2.out.trans (k4.out.mono hC2.out.size)).trans (hz.kk.mono (hC2.out.trans (k4.out.mono hC2.out.size)).size))
              go_wp2_with fail
              refine h5.mono ?_
              rintro e w5 ⟨rfl, hB5⟩
              have hT5 : Hid (SM w4 gS gA gB r g k 0 w5) := hidden (SM.step hT.out hB5)
              have h7 := h6.out _ (SN.kk hT5.out)
              clear h5 hB5 hT x0 x1
              go_wp2_with fail
              refine h7.mono ?_
              rintro e w6 ⟨rfl, hB6⟩
              have hT6 : Hid (SM w4 gS gA gB r g k 0 w6) := hidden (SM.step hT5.out hB6)
              have h8 := hlv w6 (hCy.out _ hT6.out)
              clear h7 hB6 hT5 h6 hlv
              go_wp2_with fail
              refine h8.mono ?_
              rintro e w7 ⟨rfl, hD⟩
              have hfin : Hid (GoX.Calm w w7) := (hCy.out _ hT6.out).trans hD
              clear hD h8 hCy hT6
              go_wp2
              go_ret
              exact ⟨by first | done | rfl | simp, hfin.out⟩
  · have h2 := csrBad_c g us a2 n2 c2 d2 m2 e2 w2 hU hsm.out hok
    clear hU
    have g1 : ((checkG g).2 == 0) = false := by simp [hok]
    have g2 : ((checkG g).2 != 0) = true := by simp [hok]
    replace hok := hidden hok
    rw [g1] at hgood
    generalize (checkG g).2 = q at *
    go_wp2_with fail
    refine h2.mono ?_
    rintro e w3 ⟨rfl, hD⟩
    have k3 : Hid (Below y.heap.size y w3) := k2.out.trans (hD.mono k2.out.size)
    obtain ⟨⟨b0, b1⟩, -⟩ := box2f (box_below hX2'.out k3.out)
    have h3 := hgood.out w3 k3.out
    clear hD k2 h2 hgood
    go_wp2_with fail
    refine h3.mono ?_
    rintro e w4 ⟨rfl, hD⟩
    have k4 : Hid (Below y.heap.size y w4) := k3.out.trans (hD.mono k3.out.size)
    have h6 := hlv w4 (.of_below (hC2.out.trans (k4.out.mono hC2.out.size)))
    clear hD k3 h3 b0 b1 hlv
    go_wp2_with fail
    refine h6.mono ?_
    rintro e w7 ⟨rfl, hD⟩
    have hfin : Hid (GoX.Calm w w7) := GoX.Calm.trans (.of_below (hC2.out.trans (k4.out.mono hC2.out.size))) hD
    clear hD k4 h6
    go_wp2
    go_ret
    exact ⟨by first | done | rfl | simp, hfin.out⟩
end Go.Proofs.Ytgojieabeaalcaa
