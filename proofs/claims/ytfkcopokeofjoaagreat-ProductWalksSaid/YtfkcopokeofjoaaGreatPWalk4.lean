/-
  HOPS SORTED BY THEIR EDGES (slices.SortFunc at product.Hops' order), by contract.
-/
import Derived.Test.YtfkcopokeofjoaaGreatPWalk2
import Derived.Test.YtfkcopokeofjoaaGreatShelf
import Derived.Shelf.GgSortFunc.InsertionK
import Derived.Shelf.SlSortCmp.Insertion
import Derived.Shelf.SlSortCmp.WholeK
import Derived.Sort.Grow
import Derived.Deep.Draws
import Derived.Test.YtfkcopokeofjoaaGreatCsStep
namespace Go.Proofs.YtfkcopokeofjoaaGreat
open Go.ChangeShapes Go.WideShapes Go.ChangeAt Go.RowKit Go.Sort

/-- Draws, and blocks behind what was. -/
def LaidH (w w' : World) : Prop := ∃ q os, w' = grow (w.drewN q) os
theorem LaidH.refl (w : World) : LaidH w w := ⟨0, #[], by simp [grow, World.drewN]⟩
theorem LaidH.drew {w x : World} (h : LaidH w x) : LaidH w x.drew := by
  obtain ⟨q, os, rfl⟩ := h
  exact ⟨q + 1, os, rfl⟩
theorem LaidH.alloc {w x : World} (h : LaidH w x) (o : Obj) : LaidH w (x.alloc o) := by
  obtain ⟨q, os, rfl⟩ := h
  exact ⟨q, os ++ #[o], by rw [alloc_eq_grow, grow_grow]⟩
theorem LaidH.below {w x : World} (h : LaidH w x) : Below w.heap.size w x := by
  obtain ⟨q, os, rfl⟩ := h
  refine ⟨rfl, rfl, rfl, ?_, fun k hk => ?_⟩
  · simp [grow, World.drewN]
  · simp [grow, World.drewN, Array.getElem?_append_left hk]
def cmpI (a b : Int) : Int := if a < b then -1 else if b < a then 1 else 0
theorem nani_c (a : Int) (w : World) : Calls Tryz.prog 49 #[.int .i64 a] w fun e w' => e = .returned (.bool false) ∧ w' = w := by
  go_enter Tryz.func49, Tryz.ntmps49
  go_wp2
  go_ret
  exact ⟨rfl, rfl⟩
theorem cmpi_c (a b : Int) (w : World) : Calls Tryz.prog 33 #[.int .i64 a, .int .i64 b] w fun e w' => e = .returned (.int .i64 (cmpI a b)) ∧ w' = w := by
  have h := fun a w => nani_c a w
  have key : (a < b ∧ Hid (cmpI a b = -1)) ∨ (¬ a < b ∧ b < a ∧ Hid (cmpI a b = 1)) ∨ (¬ a < b ∧ ¬ b < a ∧ Hid (cmpI a b = 0)) := by
    by_cases h1 : a < b
    · exact .inl ⟨h1, by show _ = _; simp [cmpI, h1]⟩
    · by_cases h2 : b < a
      · exact .inr (.inl ⟨h1, h2, by show _ = _; simp [cmpI, h1, h2]⟩)
      · exact .inr (.inr ⟨h1, h2, by show _ = _; simp [cmpI, h1, h2]⟩)
  rcases key with ⟨h1, e⟩ | ⟨h1, h2, e⟩ | ⟨h1, h2, e⟩ <;> rw [e.out] <;> clear e <;>
  · go_enter Tryz.func33, Tryz.ntmps33
    go_wp2_with fail
    refine (h a w).mono ?_
    rintro e w ⟨rfl, rfl⟩
    go_wp2_with fail
    refine (h b _).mono ?_
    rintro e w ⟨rfl, rfl⟩
    go_wp2
    go_ret
    exact ⟨rfl, rfl⟩
def hpcmp (x y : Hop) : Int := cmpI x.1 y.1
theorem cmpI_neg {a b : Int} : cmpI a b < 0 ↔ a < b := by
  unfold cmpI
  split
  · simp [*]
  · split <;> simp <;> omega
theorem swo_hp : Go.Sort.SWO (Go.Proofs.ltOf fun x y : Hop => hpcmp x y) := by
  refine ⟨fun x => ?_, fun x y z h1 h2 => ?_, fun x y z h1 h2 => ?_⟩
  · simp only [Go.Proofs.ltOf, decide_eq_false_iff_not, hpcmp, cmpI_neg]; omega
  · simp only [Go.Proofs.ltOf, decide_eq_true_eq, hpcmp, cmpI_neg] at *
    omega
  · simp only [Go.Proofs.ltOf, decide_eq_false_iff_not, hpcmp, cmpI_neg] at *
    omega
set_option maxHeartbeats 1600000 in
set_option maxRecDepth 100000 in
theorem hpcmp_c (x y : Hop) (w : World) : Calls Tryz.prog 32 #[.agg #[.int .i64 x.1, .bool x.2], .agg #[.int .i64 y.1, .bool y.2]] w fun e w' => e = .returned (.int .i64 (hpcmp x y)) ∧ LaidH w w' := by
  obtain ⟨a, p⟩ := x
  obtain ⟨b, q⟩ := y
  obtain ⟨w2, hw2⟩ : ∃ w2, w2 = (w.alloc (.cells #[.int .i64 a, .bool p] 45)).alloc (.cells #[.int .i64 b, .bool q] 45) := ⟨_, rfl⟩
  have hB0 : Hid (LaidH w w2) := by rw [hw2]; exact ((LaidH.refl _).alloc _).alloc _
  have hc := fun x => cmpi_c a b x
  simp only [hpcmp]
  generalize cmpI a b = cv at *
  subst hw2
  go_enter Tryz.func32, Tryz.ntmps32
  go_wp2_with fail
  refine (hc _).mono ?_
  rintro e z ⟨rfl, rfl⟩
  go_wp2
  go_ret
  exact ⟨rfl, by first | exact hB0.out | exact hB0.out.drew⟩
/-! ## A row of steps -/
theorem own_cell {x : World} {B e s g n cap : Nat} {xs : List Value} (h : x.ownsRow B e s (.slice (some ⟨g, 0, none⟩) n cap) n xs) {j : Nat} {u : Value} (hj : xs[j]? = some u) : x.cell? ⟨g, j, none⟩ = some u := by
  obtain ⟨hl, h⟩ := h
  rcases h with ⟨e, _⟩ | ⟨g', cap', cur, e, _, hc, _, _, _, htk⟩
  · cases e
  · simp only [Value.slice.injEq, Option.some.injEq, Addr.mk.injEq, and_true] at e
    obtain ⟨rfl, _⟩ := e
    have hlt := (List.getElem?_eq_some_iff.1 hj).1
    rw [hl] at hlt
    rw [← htk, List.getElem?_take_of_lt hlt, Array.getElem?_toList] at hj
    simp only [World.cell?, hc]
    exact hj
theorem flat_hp (d : Array Hop) : Go.Sort.flatK (fun x => hopR.enc x) 2 d = (hopR.flat d.toList).toArray := by
  have hs : (Go.Sort.flatK (fun x => hopR.enc x) 2 d).size = d.size * 2 := by simp
  have hfl : (hopR.flat d.toList).length = d.size * 2 := by rw [Rec.flat_len]; simp [hopR]
  apply Array.ext
  · rw [hs]; simp [hfl]
  · intro t h1 h2
    rw [hs] at h1
    have hd : t / 2 < d.size := by omega
    have hg := Go.Sort.get_flatK (fun x => hopR.enc x) 2 d t h1
    rw [getElem!_pos _ t (by rw [hs]; exact h1)] at hg
    rw [hg]
    have he := Rec.flat_at (R := hopR) d.toList (t / 2) (t % 2) (by simpa using hd) (by show _ < 2; omega)
    rw [show t / 2 * hopR.n + t % 2 = t by show t / 2 * 2 + _ = _; omega] at he
    have hp : d.toList.getD (t / 2) hopR.dflt = d[t / 2]! := by
      rw [getElem!_pos d (t / 2) hd]; simp [List.getD, hd]
    rw [hp] at he
    have hl : t % 2 < (hopR.enc d[t / 2]!).length := by rw [hopR.len]; show _ < 2; omega
    rw [getElem!_pos (hopR.enc d[t / 2]!) (t % 2) hl]
    rw [List.getElem?_eq_getElem hl] at he
    have h3 : t < (hopR.flat d.toList).length := by omega
    rw [List.getElem?_eq_getElem h3] at he
    have he := Option.some.inj he
    simp only [List.getElem_toArray]
    exact he.symm
theorem sw_block (w : World) (g m : Nat) (dk : Array Hop) (os : Array Obj) {cur : Array Value} {e : TypeId} (h : w.heap[g]? = some (.cells cur e (0, 0))) :
    (Go.Proofs.sortWorldK (fun x => hopR.enc x) 2 w g 0 m dk os).heap[g]? = some (.cells (Go.Sort.putCells id 0 (Go.Sort.flatK (fun x => hopR.enc x) 2 dk) cur) e (0, 0)) := by
  have hg : g < w.heap.size := (Array.getElem?_eq_some_iff.1 h).1
  simp only [Go.Proofs.sortWorldK, Go.Sort.grow, Go.Sort.putRowK, Go.Sort.putRow, Go.Sort.mapBlock, Go.Sort.ahead]
  rw [Array.getElem?_append_left (by simpa using hg), Array.getElem?_modify, if_pos rfl, h]
  rfl
theorem sw_other (w : World) (g m : Nat) (dk : Array Hop) (os : Array Obj) {j : Nat} (hj : j < w.heap.size) (hne : j ≠ g) :
    (Go.Proofs.sortWorldK (fun x => hopR.enc x) 2 w g 0 m dk os).heap[j]? = w.heap[j]? := by
  simp only [Go.Proofs.sortWorldK, Go.Sort.grow, Go.Sort.putRowK, Go.Sort.putRow, Go.Sort.mapBlock, Go.Sort.ahead]
  rw [Array.getElem?_append_left (by simpa using hj), Array.getElem?_modify, if_neg (Ne.symm hne)]
theorem sw_below (w : World) (g m : Nat) (dk : Array Hop) (os : Array Obj) {B : Nat} (hB : B ≤ g) (hw : B ≤ w.heap.size) :
    Below B w (Go.Proofs.sortWorldK (fun x => hopR.enc x) 2 w g 0 m dk os) := by
  refine ⟨rfl, rfl, rfl, ?_, fun j hj => sw_other w g m dk os (by omega) (by omega)⟩
  simp [Go.Proofs.sortWorldK, Go.Sort.grow, Go.Sort.putRowK, Go.Sort.putRow, Go.Sort.mapBlock, Go.Sort.ahead]
theorem put_take (F cur : Array Value) (n : Nat) (hF : F.size = n) (hn : n ≤ cur.size) : (Go.Sort.putCells id 0 F cur).toList.take n = F.toList := by
  apply List.ext_getElem?
  intro t
  by_cases ht : t < n
  · have hc : t < cur.size := by omega
    have hf : t < F.size := by omega
    rw [List.getElem?_take_of_lt ht, Array.getElem?_toList, Array.getElem?_toList]
    simp [Go.Sort.putCells, hc, hf]
  · rw [List.getElem?_eq_none (by simp; omega), List.getElem?_eq_none (by simp; omega)]
theorem sw_row (w : World) (B g n cap m : Nat) (L : List Hop) (dk : Array Hop) (os : Array Obj) (hd : dk.size = n) (hr : w.ownsRow B 45 2 (.slice (some ⟨g, 0, none⟩) n cap) n (hopR.flat L)) :
    (Go.Proofs.sortWorldK (fun x => hopR.enc x) 2 w g 0 m dk os).ownsRow B 45 2 (.slice (some ⟨g, 0, none⟩) n cap) n (hopR.flat dk.toList) := by
  obtain ⟨hl, h⟩ := hr
  refine ⟨by rw [Rec.flat_len]; simp [hd, hopR], ?_⟩
  rcases h with ⟨h, _⟩ | ⟨g', cap', cur, he, h2, h3, h4, h5, h6, h7⟩
  · cases h
  · simp only [Value.slice.injEq, Option.some.injEq, Addr.mk.injEq, and_true, true_and] at he
    obtain ⟨rfl, rfl⟩ := he
    refine .inr ⟨g, cap, _, rfl, h2, sw_block w g m dk os h3, h4, h5, by simpa [Go.Sort.putCells] using h6, ?_⟩
    rw [put_take _ _ _ (by simp [hd]) (by rw [h6]; exact Nat.mul_le_mul_right 2 h4), flat_hp]
theorem holdsK_row (w : World) (B g cap : Nat) (d : Array Hop) (hr : w.ownsRow B 45 2 (.slice (some ⟨g, 0, none⟩) d.size cap) d.size (hopR.flat d.toList)) :
    Go.Sort.HoldsK (fun x => hopR.enc x) 2 w g 0 d := by
  intro j hj
  rw [flat_hp] at hj ⊢
  have hj' : j < (hopR.flat d.toList).length := by simpa using hj
  have hget : (hopR.flat d.toList)[j]? = some (hopR.flat d.toList).toArray[j]! := by
    rw [List.getElem?_eq_getElem hj', getElem!_pos (hopR.flat d.toList).toArray j hj]; simp
  refine ⟨by rw [Nat.zero_add]; exact own_cell hr hget, by rw [Nat.zero_add]; exact hr.frozenAt j⟩

/-! ## The sort -/
theorem enters_order : ∀ args w, (callFunc 32 args).run Tryz.prog w = .ok (.enter 32 args) w := enters_of Tryz.func32 (by kernel_rfl) rfl
theorem agg_hp : ∀ w, (isAgg 45).run Tryz.prog w = .ok true w := fun w => by kernel_rfl
theorem size_hp : ∀ w, (Go.sizeOf 45).run Tryz.prog w = .ok 2 w := fun w => by kernel_rfl
theorem cmpLays_hp (w : World) (g n : Nat) : Go.Proofs.CmpLays Tryz.prog 32 #[] (fun x : Hop => hopR.enc x) 2 (fun x y => hpcmp x y) g 0 n w := fun _ _ _ _ x y => hpcmp_c x y _
/-- Steps in a row of their own, sorted. -/
theorem hpsort_c (w : World) (B g n cap : Nat) (L : List Hop) (h : w.ownsRow B 45 2 (.slice (some ⟨g, 0, none⟩) n cap) n (hopR.flat L)) (hL : L.length = n) (hn : n ≤ 17592186044416) (hB : B ≤ g) :
    Calls Tryz.prog 31 #[.slice (some ⟨g, 0, none⟩) n cap, .func (.func 32) #[] #[]] w fun e w' =>
      e = .returned (.tuple #[]) ∧ ∃ L' : List Hop, w'.ownsRow B 45 2 (.slice (some ⟨g, 0, none⟩) n cap) n (hopR.flat L') ∧ L'.Perm L ∧ (∀ i j, i < j → j < n → ¬ hpcmp (L'.getD j (0, false)) (L'.getD i (0, false)) < 0) ∧ Below B w w' ∧ (∀ j, j < w.heap.size → j ≠ g → w'.heap[j]? = w.heap[j]?) := by
  have hDn : L.toArray.size = n := by simpa using hL
  have hrow' : w.ownsRow B 45 2 (.slice (some ⟨g, 0, none⟩) L.toArray.size cap) L.toArray.size (hopR.flat L.toArray.toList) := by rw [hDn]; exact h
  have hg : g < w.heap.size := by
    rcases h.2 with ⟨e, _⟩ | ⟨g', cap', cur, e, _, hc, _⟩
    · cases e
    · simp only [Value.slice.injEq, Option.some.injEq, Addr.mk.injEq, and_true, true_and] at e
      obtain ⟨rfl, _⟩ := e
      exact (Array.getElem?_eq_some_iff.1 hc).1
  have hcon := Go.Proofs.AnyQ.slices_SortFunc Tryz.sortItem 2 agg_hp size_hp (fun x : Hop => hopR.enc x) (fun _ => rfl) (fun x v hv => hopR.one x v hv) (fun x y => hpcmp x y) swo_hp 32 #[] g 0 cap L.toArray w enters_order (cmpLays_hp w g _) (holdsK_row w B g cap L.toArray hrow') hg (by rw [hDn]; omega)
  change Calls Tryz.prog 31 _ _ _ at hcon
  rw [hDn] at hcon
  refine hcon.mono ?_
  rintro e w' ⟨rfl, d', m, os, hp, hs, rfl⟩
  obtain ⟨hps, -, hpp⟩ := hp
  rw [hDn] at hps
  have hpp' : d'.toList.Perm L := by
    have e1 : d'.extract 0 n = d' := by rw [← hps]; simp
    have e2 : L.toArray.extract 0 n = L.toArray := by rw [← hDn]; simp
    rw [e1, e2] at hpp
    simpa using hpp
  refine ⟨rfl, d'.toList, sw_row w B g n cap m _ d' os hps h, hpp', ?_, sw_below w g m d' os hB (by omega), fun j hj hne => sw_other w g m d' os hj hne⟩
  intro i j hij hj
  have h1 := hs i j (Nat.zero_le _) hij hj
  have hj' : j < d'.size := by omega
  have hi' : i < d'.size := by omega
  rw [getElem!_pos d' j hj', getElem!_pos d' i hi'] at h1
  simpa [Go.Proofs.ltOf, List.getD, hj', hi'] using h1
set_option maxHeartbeats 2000000 in
theorem hins0_c (p : Option Addr) (cap : Nat) (fv : Value) (w : World) :
    Calls Tryz.prog 66 #[.slice p 0 cap, .int .i64 0, .int .i64 0, fv] w fun e w' => e = .returned (.tuple #[]) ∧ w' = w := by
  go_enter Tryz.func66, Tryz.ntmps66
  go_wp2
  refine wp_loop_rounds 1 ?_
  rw [rounds_succ]
  go_wp2
  go_end0
  exact ⟨rfl, rfl⟩
set_option maxHeartbeats 2000000 in
set_option maxRecDepth 100000 in
theorem hpdq0_c (p : Option Addr) (cap : Nat) (lim : Int) (fv : Value) (w : World) :
    Calls Tryz.prog 47 #[.slice p 0 cap, .int .i64 0, .int .i64 0, .int .i64 lim, fv] w fun e w' => e = .returned (.tuple #[]) ∧ w' = w := by
  have hi := fun W => hins0_c p cap fv W
  go_enter Tryz.func47, Tryz.ntmps47
  go_wp2
  refine wp_loop_rounds 1 ?_
  rw [rounds_succ]
  go_wp2_with (go_at_call 66; refine (hi _).mono ?_; rintro e w' ⟨rfl, rfl⟩)
  (try simp only [Exit.inBlock, Exit.then]); refine bodyPost_ret (results_none rfl _ _ _) rfl ?_
  exact ⟨rfl, rfl⟩
set_option maxHeartbeats 2000000 in
theorem hpsort0_c (p : Option Addr) (cap : Nat) (fv : Value) (w : World) :
    Calls Tryz.prog 31 #[.slice p 0 cap, fv] w fun e w' => e = .returned (.tuple #[]) ∧ w' = w := by
  have hp := fun lim W => hpdq0_c p cap lim fv W
  have hl := fun W => Tryz.bits_Len 0 W (by omega) (by omega)
  go_enter Tryz.func31, Tryz.ntmps31
  go_wp2_with (first | (go_at_call 48; refine (hl _).mono ?_; rintro e w' ⟨rfl, rfl⟩) | (go_at_call 47; refine (hp _ _).mono ?_; rintro e w' ⟨rfl, rfl⟩) | fail)
  go_end0
  exact ⟨rfl, rfl⟩
end Go.Proofs.YtfkcopokeofjoaaGreat
/-
  WALKS AND HOPS: the program's ends, walks, and a node's hops of a step, by contract (what csr tells is premised); the reference's hops of a step.
-/
namespace Go.Proofs.YtfkcopokeofjoaaGreat
open Go.ChangeShapes Go.WideShapes Go.ChangeAt Go.RowKit

set_option maxHeartbeats 1600000 in
set_option maxRecDepth 100000 in
theorem pends_p (es : List Eg) (pc : Value) (h : Hop) (w : World)
    (hce : ∀ z, Below w.heap.size w z → Calls Tryz.prog 29 #[pc, .int .i64 h.1] z fun e w' => e = .returned (.tuple #[.int .i64 (begH es (h.1, false)), .int .i64 (endH es (h.1, false)), .bool (isH es h)]) ∧ Below z.heap.size z w') :
    Calls Tryz.prog 14 #[pc, .agg #[.int .i64 h.1, .bool h.2]] w fun e w' => e = .returned (.tuple #[.int .i64 (begH es h), .int .i64 (endH es h), .bool (isH es h)]) ∧ Below w.heap.size w w' := by
  obtain ⟨pe, pb⟩ := h
  obtain ⟨x, hx⟩ : ∃ x, x = w.alloc (.cells #[.int .i64 pe, .bool pb] 45) := ⟨_, rfl⟩
  have hX0 : Hid (x.heap[w.heap.size]? = some (.cells #[.int .i64 pe, .bool pb] 45)) := by rw [hx]; exact heap_alloc_new w _
  have hB0 : Hid (Below w.heap.size w x) := by rw [hx]; exact (Below.refl _ _).alloc (Nat.le_refl _) _
  have hc := hce x hB0.out
  have e1 : begH es (pe, true) = endH es (pe, false) := by simp [begH, endH, isH, edH]
  have e2 : endH es (pe, true) = begH es (pe, false) := by simp [begH, endH, isH, edH]
  have e3 : isH es (pe, true) = isH es (pe, false) := rfl
  have hgoal : Hid ((.int .i64 (begH es (pe, pb)) : Value) = .int .i64 (if pb then endH es (pe, false) else begH es (pe, false)) ∧ (.int .i64 (endH es (pe, pb)) : Value) = .int .i64 (if pb then begH es (pe, false) else endH es (pe, false))) := hidden (by cases pb <;> simp [e1, e2])
  obtain ⟨g1, g2⟩ := hgoal.out
  rw [g1, g2]
  have e4 : isH es (pe, pb) = isH es (pe, false) := rfl
  rw [e4] at hc ⊢
  clear e1 e2 e3 e4 g1 g2 hgoal hce
  simp only at hc
  generalize begH es (pe, false) = q0 at *
  generalize endH es (pe, false) = q1 at *
  generalize isH es (pe, false) = q2 at *
  cases pb
  all_goals
    go_enter Tryz.func14, Tryz.ntmps14
    go_wp2_with fail
    rw [← hx]
    refine hc.mono ?_
    rintro e w1 ⟨rfl, hB1⟩
    obtain ⟨⟨b0, b1⟩, -⟩ := box2w (box_below hX0.out hB1)
    have hBf : Hid (Below w.heap.size w w1) := hB0.out.trans (hB1.mono hB0.out.size)
    clear hB1 hB0 hX0 hc hx
    go_wp2
    go_ret3
    exact ⟨rfl, hBf.out⟩
set_option maxHeartbeats 3200000 in
set_option maxRecDepth 100000 in
theorem pwalk_p (es : List Eg) (hs : List Hop) (N : Nat) (pc : Value) (fr : Int) (ha : Option Addr) (hc : Nat) (w : World) (_hN : N ≤ 1000) (hv : RowAt w ha (hopR.flat hs)) (hn : hs.length ≤ 1000)
    (hno : ∀ z, Below w.heap.size w z → Calls Tryz.prog 28 #[pc] z fun e w' => e = .returned (.int .i64 (N : Int)) ∧ w' = z)
    (hen : ∀ z (h : Hop), Below w.heap.size w z → Calls Tryz.prog 14 #[pc, .agg #[.int .i64 h.1, .bool h.2]] z fun e w' => e = .returned (.tuple #[.int .i64 (begH es h), .int .i64 (endH es h), .bool (isH es h)]) ∧ Below z.heap.size z w') :
    Calls Tryz.prog 11 #[pc, .int .i64 fr, .slice ha hs.length hc] w fun e w' => WalkA es N fr hs w e w' := by
  obtain ⟨i0, hi, hz0, hz1, hz2⟩ := info_parts infoInt
  have hnod := hno w (Below.refl _ _)
  replace hen := hidden hen
  replace hv := hidden hv
  clear hno
  by_cases hf : 0 ≤ fr ∧ fr < N
  · obtain ⟨hf0, hf1⟩ := id hf
    have hf0' : ¬ fr < 0 := by omega
    have hf1' : ¬ (N : Int) ≤ fr := by omega
    replace hf := hidden hf
    go_enter Tryz.func11, Tryz.ntmps11
    go_wp2_with fail
    refine hnod.mono ?_
    rintro e w1 ⟨rfl, rfl⟩
    clear hnod
    have hO0 : Hid ((w1.alloc (.cells #[.int .i64 fr] 3)).ownsRow w1.heap.size 3 1 (.slice (some ⟨w1.heap.size, 0, none⟩) 1 1) 1 (intR.flat (pathH es fr (hs.take 0)))) := hidden ⟨rfl, .inr ⟨w1.heap.size, 1, #[.int .i64 fr], rfl, Nat.le_refl _, heap_alloc_new w1 _, Nat.le_refl _, by unfold maxLen; omega, rfl, rfl⟩⟩
    have hk0 : Hid (Below w1.heap.size w1 (w1.alloc (.cells #[.int .i64 fr] 3))) := hidden ((Below.refl _ _).alloc (Nat.le_refl _) _)
    go_wp2_with fail
    generalize w1.alloc (.cells #[.int .i64 fr] 3) = x1 at *
    go_loopw [9, 10, 29] (fun u l i wr => ∃ k : Nat, k ≤ hs.length ∧ i = .int .i64 k ∧ l = .int .i64 (lastH es fr (hs.take k)) ∧ Hid (okH es fr (hs.take k) = true) ∧ Hid (wr.ownsRow w1.heap.size 3 1 u (k + 1) (intR.flat (pathH es fr (hs.take k)))) ∧ Hid (Below w1.heap.size w1 wr))
      (fun _ _ i _ => hs.length - (intOf i).toNat)
    case atStart => exact ⟨0, Nat.zero_le _, rfl, rfl, rfl, hO0, hk0⟩
    case round =>
      clear hO0 hk0
      obtain ⟨k, hk, rfl, rfl, hok, hown, hnx⟩ := hrel
      obtain ⟨oa, oc, rfl⟩ := own_shape hown.out
      by_cases hlt : k < hs.length
      · have hlt' : (k : Int) < (hs.length : Int) := by omega
        obtain ⟨hb, ho, rfl, hhb, f0, f1⟩ := hop_at (hv.out.below hnx.out) hlt
        have hon := hidden (okH_snoc es fr (hs.take k) (hs.getD k (0, false)))
        have hpn := hidden (pathH_snoc es fr (hs.take k) (hs.getD k (0, false)))
        have hln := hidden (lastH_snoc es fr (hs.take k) (hs.getD k (0, false)))
        rw [← take_snocR hs (0, false) k hlt] at hon hpn hln
        rw [hok.out, Bool.true_and] at hon
        have hcl := fun z hz => hen.out z (hs.getD k (0, false)) hz
        generalize hs.getD k (0, false) = p at *
        generalize lastH es fr (hs.take k) = la at *
        generalize begH es p = q0 at *
        generalize endH es p = q1 at *
        generalize isH es p = q2 at *
        obtain ⟨pe, pb⟩ := p
        simp only at f0 f1 hcl
        have hX := hidden (heap_alloc_new wr (.cells #[.int .i64 pe, .bool pb] 45))
        obtain ⟨⟨b0, b1⟩, -⟩ := box2w hX.out
        have hn1 : Hid (Below w1.heap.size w1 (wr.alloc (.cells #[.int .i64 pe, .bool pb] 45))) := hnx.out.alloc hnx.out.size _
        have ho1 := hidden (hown.out.alloc (.cells #[.int .i64 pe, .bool pb] 45))
        have hc1 := hcl _ hn1.out
        clear hcl hown hnx
        go_wp2_with fail
        refine hc1.mono ?_
        rintro e w2 ⟨rfl, hB2⟩
        have hn2 : Hid (Below w1.heap.size w1 w2) := hn1.out.trans (hB2.mono hn1.out.size)
        have ho2 := hidden (owns_keep ho1.out hB2)
        clear hB2 hc1 hn1 ho1 b0 b1 f0 f1 hX
        cases q2 with
        | false =>
          have hno : Hid (walkN es N fr hs = false) := hidden (walkN_no (okH_take es fr hs (k + 1) (by rw [hon.out]; rfl)))
          clear ho2 hon hpn hln
          go_wp2
          go_ret3
          exact walkA_no hno.out hn2.out
        | true =>
          by_cases hq : q0 = la
          · have hq1 : (q0 != la) = false := by simp [hq]
            have hyes : Hid (okH es fr (hs.take (k + 1)) = true) := hidden (by rw [hon.out, hq]; simp)
            clear hon
            subst hq
            have hone := hidden (SlR.oneR (R := intR) w2 q1 3)
            go_wp2_with (at_builtin; go_loud (refine wpList_appH _ intR rfl _ _ 37 rfl w1.heap.size 3 i0 (.int .i64 0) 1 8 Tryz.underlying37 hi hz0 hz1 hz2 rfl rfl rfl (owns_keep ho2.out ((Below.refl _ _).alloc (Nat.le_refl _) _)) rfl (hone.out) (by show _ + 1 ≤ _; unfold maxLen; omega) (by show (_ + 1) * 8 ≤ _; omega) (by have := hn2.out.size; show _ ≤ (w2.heap.push _).size; simp; omega) ?_); intro v' w5 hown5 hgrow5)
            have hk5 : Hid (Below w1.heap.size w1 w5) := hidden ((hn2.out.alloc hn2.out.size _).grown hgrow5 (hn2.out.alloc hn2.out.size (.cells #[.int .i64 q1] 3)).size (fun j hj => (ho2.out.lt j hj).1))
            have hO5 : Hid (w5.ownsRow w1.heap.size 3 1 v' (k + 1 + 1) (intR.flat (pathH es fr (hs.take (k + 1))))) := hidden (by
              rw [hpn.out, Rec.flat_app]
              exact hown5)
            clear hown5 hgrow5 ho2 hn2 hone hpn
            go_wp2
            go_roundw
            case rel => exact ⟨k + 1, by omega, by go_num, by rw [hln.out], hyes, hO5, hk5⟩
            case measure => simp [intOf]; omega
          · have hq1 : (q0 != la) = true := by simp [hq]
            have hno : Hid (walkN es N fr hs = false) := hidden (walkN_no (okH_take es fr hs (k + 1) (by rw [hon.out]; simp [hq])))
            clear ho2 hon hpn hln
            replace hq := hidden hq
            go_wp2
            go_ret3
            exact walkA_no hno.out hn2.out
      · have hlt' : ¬ (k : Int) < (hs.length : Int) := by omega
        obtain rfl : k = hs.length := by omega
        rw [List.take_length] at hok hown
        rw [List.take_length]
        have hfin : Hid (WalkA es N fr hs w1 (.returned (.tuple #[.int .i64 (lastH es fr hs), .slice oa (hs.length + 1) oc, .bool true])) wr) := hidden ⟨_, by rw [walkN_yes hf.out hok.out]; rfl, by
          rw [walkN_yes hf.out hok.out, if_pos rfl]
          refine intR_holds (holdsR_of_owns (R := intR) (base := w1.heap.size) (e := 3) ?_)
          rw [pathH_len]
          exact hown.out, hnx.out⟩
        clear hok hown hf
        go_wp2
        go_ret3
        exact hfin.out
  · have hno := hidden (walkN_out (es := es) (ls := hs) hf)
    by_cases hf0 : fr < 0
    · clear hf
      go_enter Tryz.func11, Tryz.ntmps11
      go_wp2
      go_ret3
      exact walkA_no hno.out (Below.refl _ _)
    · have hf1' : (N : Int) ≤ fr := by omega
      clear hf
      go_enter Tryz.func11, Tryz.ntmps11
      go_wp2_with fail
      refine hnod.mono ?_
      rintro e w1 ⟨rfl, rfl⟩
      clear hnod
      go_wp2
      go_ret3
      exact walkA_no hno.out (Below.refl _ _)
end Go.Proofs.YtfkcopokeofjoaaGreat
/-
  A NODE's HOPS OF A STEP, by contract: the program's (what csr tells of the step is premised) and the reference's.
-/
namespace Go.Proofs.YtfkcopokeofjoaaGreat
open Go.ChangeShapes Go.WideShapes Go.ChangeAt Go.RowKit

theorem box4z {x : World} {b : Nat} {c0 c1 c2 c3 : Value} {t : TypeId} (h : x.heap[b]? = some (.cells #[c0, c1, c2, c3] t)) : (x.cell? ⟨b, 0, none⟩ = some c0 ∧ x.cell? ⟨b, 1, none⟩ = some c1 ∧ x.cell? ⟨b, 2, none⟩ = some c2 ∧ x.cell? ⟨b, 3, none⟩ = some c3) ∧ x.frozen? ⟨b, 0, none⟩ = false ∧ x.frozen? ⟨b, 1, none⟩ = false ∧ x.frozen? ⟨b, 2, none⟩ = false ∧ x.frozen? ⟨b, 3, none⟩ = false := by
  simp [World.cell?, World.frozen?, h]
set_option maxHeartbeats 3200000 in
set_option maxRecDepth 100000 in
theorem rhops_c (es : List Eg) (a : Option Addr) (N c : Nat) (b : Option Addr) (d : Nat) (n : Int) (s : ByteArray) (back : Bool) (w : World) (hrow : RowAt w b (edgeR.flat es)) (hm : es.length ≤ 1000) :
    Calls Tryz.prog 18 #[.agg #[.slice a N c, .slice b es.length d], .int .i64 n, .agg #[.string s, .bool back]] w fun e w' => ∃ v, e = .returned v ∧ HoldsR hopR w' v (hopsH es n s back) ∧ Below w.heap.size w w' := by
  obtain ⟨i0, hi, hz0, hz1, hz2⟩ := info_parts infoH
  obtain ⟨wb, hwb⟩ : ∃ wb, wb = (w.alloc (.cells #[.slice a N c, .slice b es.length d] 25)).alloc (.cells #[.string s, .bool back] 48) := ⟨_, rfl⟩
  have hB0 : Hid (Below w.heap.size w wb) := by rw [hwb]; exact ((Below.refl _ _).alloc (Nat.le_refl _) _).alloc (by simp) _
  have hX0 : Hid (wb.heap[w.heap.size]? = some (.cells #[.slice a N c, .slice b es.length d] 25)) := by
    rw [hwb]
    exact heap_alloc_old (w.alloc (.cells #[.slice a N c, .slice b es.length d] 25)) _ (by simp) |>.trans (heap_alloc_new w _)
  have hX1 : Hid (wb.heap[w.heap.size + 1]? = some (.cells #[.string s, .bool back] 48)) := by
    rw [hwb]; exact heap_new4 w _ _
  have hends := hidden fun z (hz : Below w.heap.size w z) h => rends_c es a N c b d h z (hrow.below hz) hm
  replace hrow := hidden hrow
  go_enter Tryz.func18, Tryz.ntmps18
  go_wp2_with fail
  rw [← hwb]
  replace hwb := hidden hwb.symm
  have hWs : wb.heap.size = w.heap.size + 1 + 1 := by rw [← hwb.out]; simp
  have hO0 : Hid ((wb.alloc (.cells #[] 45)).ownsRow wb.heap.size 45 2 (.slice (some ⟨w.heap.size + 1 + 1, 0, none⟩) 0 0) (hopsTo es n s back 0).length (hopR.flat (hopsTo es n s back 0))) := hidden (by
    rw [← hWs]
    exact World.ownsRow_made (base := wb.heap.size) (e := 45) (size := 2) wb #[] 0 (Nat.le_refl _) (by unfold maxLen; omega) rfl)
  clear hWs
  have hk0 : Hid (Below wb.heap.size wb (wb.alloc (.cells #[] 45))) := hidden ((Below.refl _ _).alloc (Nat.le_refl _) _)
  go_wp2_with fail
  generalize wb.alloc (.cells #[] 45) = x at *
  go_loopw [7, 8] (fun u i wr => ∃ k : Nat, k ≤ es.length ∧ i = .int .i64 k ∧ Hid (wr.ownsRow wb.heap.size 45 2 u (hopsTo es n s back k).length (hopR.flat (hopsTo es n s back k))) ∧ Hid (Below wb.heap.size wb wr))
    (fun _ i _ => es.length - (intOf i).toNat)
  case atStart => exact ⟨0, Nat.zero_le _, rfl, hO0, hk0⟩
  case round =>
    clear hO0 hk0
    obtain ⟨k, hk, rfl, hown, hnx⟩ := hrel
    obtain ⟨oa, oc, rfl⟩ := own_shape hown.out
    have hby : Hid (Below w.heap.size w wr) := hB0.out.trans (hnx.out.mono hB0.out.size)
    obtain ⟨⟨b0, b1⟩, -⟩ := box2w (box_below hX0.out hnx.out)
    by_cases hlt : k < es.length
    · have hlt' : (k : Int) < (es.length : Int) := by omega
      obtain ⟨⟨c0, c1⟩, -⟩ := box2w (box_below hX1.out hnx.out)
      have hX := hidden (heap_alloc_new wr (.cells #[.int .i64 (k : Int), .bool back] 45))
      obtain ⟨⟨q0, q1⟩, -⟩ := box2w hX.out
      have hn1 : Hid (Below wb.heap.size wb (wr.alloc (.cells #[.int .i64 (k : Int), .bool back] 45))) := hnx.out.alloc hnx.out.size _
      have hby1 : Hid (Below w.heap.size w (wr.alloc (.cells #[.int .i64 (k : Int), .bool back] 45))) := hB0.out.trans (hn1.out.mono hB0.out.size)
      obtain ⟨⟨g0, g1⟩, -⟩ := box2w (box_below hX0.out hn1.out)
      have ho1 := hidden (hown.out.alloc (.cells #[.int .i64 (k : Int), .bool back] 45))
      have hc1 := hends.out _ hby1.out ((k : Int), back)
      have hsu := hidden (hopsTo_succ es n s back k)
      have hln := hopsTo_len es n s back k
      simp only at hc1
      generalize begH es ((k : Int), back) = r0 at *
      generalize endH es ((k : Int), back) = r1 at *
      generalize isH es ((k : Int), back) = r2 at *
      clear hown
      go_wp2_with fail
      refine hc1.mono ?_
      rintro e w2 ⟨rfl, hB2⟩
      have hn2 : Hid (Below wb.heap.size wb w2) := hn1.out.trans (hB2.mono hn1.out.size)
      have ho2 := hidden (owns_keep ho1.out hB2)
      have hby2 : Hid (Below w.heap.size w w2) := hB0.out.trans (hn2.out.mono hB0.out.size)
      replace hX := hidden (box_below hX.out hB2)
      clear b0 b1 c0 c1 g0 g1 q0 q1 hc1 hB2 hn1 ho1 hby1 hnx hby
      obtain ⟨⟨q0, q1⟩, -⟩ := box2w hX.out
      obtain ⟨⟨b0, b1⟩, -⟩ := box2w (box_below hX0.out hn2.out)
      obtain ⟨⟨c0, c1⟩, -⟩ := box2w (box_below hX1.out hn2.out)
      obtain ⟨eb, off, rfl, hbb, d0, d1, d2, d3⟩ := edge_at (hrow.out.below hby2.out) hlt
      generalize (es.getD k Eg.none).l = el at *
      by_cases he : el.toList = s.toList
      · have he1 : (el.toList == s.toList) = true := by simpa using he
        by_cases hr : r0 = n
        · have hr1 : (r0 == n) = true := by simpa using hr
          rw [if_pos ⟨he, hr⟩] at hsu
          replace he := hidden he
          replace hr := hidden hr
          go_wp2_with fail
          go_region
          have hn3 : Hid (Below wb.heap.size wb w2.drew) := hn2.out.drew
          have ho3 := hidden (owns_keep ho2.out (Below.refl _ _).drew)
          have hone := hidden (SlR.oneR (R := hopR) w2.drew ((k : Int), back) 45)
          have p0 : w2.drew.cell? ⟨wr.heap.size, 0, none⟩ = some (.int .i64 (k : Int)) := q0
          have p1 : w2.drew.cell? ⟨wr.heap.size, 1, none⟩ = some (.bool back) := q1
          clear b0 b1 c0 c1 d0 d1 d2 d3 q0 q1
          go_wp2_with (at_builtin; go_loud (refine wpList_appH _ hopR rfl _ _ 26 rfl wb.heap.size 45 i0 (.agg #[.int .i64 0, .bool false]) 2 16 Tryz.underlying26 hi hz0 hz1 hz2 rfl rfl rfl (owns_keep ho2.out ((Below.refl _ _).alloc (Nat.le_refl _) _).drew) rfl (hone.out) (by show _ + 1 ≤ _; unfold maxLen; omega) (by show (_ + 1) * 16 ≤ _; omega) (by have := hn2.out.size; show _ ≤ (w2.heap.push _).size; simp; omega) ?_); intro v' w5 hown5 hgrow5)
          have hk5 : Hid (Below wb.heap.size wb w5) := hidden (((hn2.out.alloc hn2.out.size _).drew).grown hgrow5 (hn2.out.alloc hn2.out.size (.cells #[.int .i64 (k : Int), .bool back] 45)).size (fun j hj => (ho2.out.lt j hj).1))
          have hO5 : Hid (w5.ownsRow wb.heap.size 45 2 v' (hopsTo es n s back (k + 1)).length (hopR.flat (hopsTo es n s back (k + 1)))) := hidden (by
            rw [hsu.out, List.length_append, Rec.flat_app]
            exact hown5)
          clear hown5 hgrow5 ho2 ho3 hn2 hn3 hone p0 p1
          go_wp2
          go_roundw
          case rel => exact ⟨k + 1, by omega, by go_num, hO5, hk5⟩
          case measure => simp [intOf]; omega
        · have hr1 : (r0 == n) = false := by simpa using hr
          rw [if_neg (fun h => hr h.2), List.append_nil] at hsu
          replace he := hidden he
          replace hr := hidden hr
          go_wp2_with fail
          go_region
          have hn3 : Hid (Below wb.heap.size wb w2.drew) := hn2.out.drew
          have ho3 : Hid (w2.drew.ownsRow wb.heap.size 45 2 (.slice oa (hopsTo es n s back k).length oc) (hopsTo es n s back (k + 1)).length (hopR.flat (hopsTo es n s back (k + 1)))) := hidden (by rw [hsu.out]; exact owns_keep ho2.out (Below.refl _ _).drew)
          clear b0 b1 c0 c1 d0 d1 d2 d3 q0 q1
          go_wp2
          go_roundw
          case rel => exact ⟨k + 1, by omega, by go_num, ho3, hn3⟩
          case measure => simp [intOf]; omega
      · have he1 : (el.toList == s.toList) = false := by simpa using he
        rw [if_neg (fun h => he h.1), List.append_nil] at hsu
        replace he := hidden he
        go_wp2_with fail
        go_region
        have hn3 : Hid (Below wb.heap.size wb w2.drew) := hn2.out.drew
        have ho3 : Hid (w2.drew.ownsRow wb.heap.size 45 2 (.slice oa (hopsTo es n s back k).length oc) (hopsTo es n s back (k + 1)).length (hopR.flat (hopsTo es n s back (k + 1)))) := hidden (by rw [hsu.out]; exact owns_keep ho2.out (Below.refl _ _).drew)
        clear b0 b1 c0 c1 d0 d1 d2 d3 q0 q1
        go_wp2
        go_roundw
        case rel => exact ⟨k + 1, by omega, by go_num, ho3, hn3⟩
        case measure => simp [intOf]; omega
    · have hlt' : ¬ (k : Int) < (es.length : Int) := by omega
      obtain rfl : k = es.length := by omega
      have hfin := hidden (holdsR_of_owns (R := hopR) hown.out)
      clear hown
      go_wp2
      go_ret
      exact ⟨_, rfl, hfin.out, hby.out⟩
set_option maxHeartbeats 3200000 in
set_option maxRecDepth 100000 in
theorem phops_p (A : List Ar) (D : List Hop) (pc : Value) (n : Int) (s : ByteArray) (back : Bool) (w : World) (hA : A.length ≤ 1000)
    (hst : ∀ z, Below w.heap.size w z → Calls Tryz.prog 30 #[pc, .int .i64 n, .agg #[.string s, .bool back]] z fun e w' => ∃ (a : Option Addr) (c : Nat), e = .returned (.slice a A.length c) ∧ RowAt w' a (arR.flat A) ∧ Below z.heap.size z w')
    (hD : ∀ L : List Hop, L.Perm (A.map fun x => ((x.ed : Int), back)) → (∀ i j, i < j → j < L.length → ¬ hpcmp (L.getD j (0, false)) (L.getD i (0, false)) < 0) → L = D) :
    Calls Tryz.prog 17 #[pc, .int .i64 n, .agg #[.string s, .bool back]] w fun e w' => ∃ v, e = .returned v ∧ HoldsR hopR w' v D ∧ Below w.heap.size w w' := by
  obtain ⟨i0, hi, hz0, hz1, hz2⟩ := info_parts infoH
  obtain ⟨x, hx⟩ : ∃ x, x = w.alloc (.cells #[.string s, .bool back] 48) := ⟨_, rfl⟩
  have hX0 : Hid (x.heap[w.heap.size]? = some (.cells #[.string s, .bool back] 48)) := by rw [hx]; exact heap_alloc_new w _
  have hB0 : Hid (Below w.heap.size w x) := by rw [hx]; exact (Below.refl _ _).alloc (Nat.le_refl _) _
  have hs1 := hst x hB0.out
  replace hD := hidden hD
  subst hx
  clear hst
  go_enter Tryz.func17, Tryz.ntmps17
  go_wp2_with fail
  refine hs1.mono ?_
  rintro e y ⟨ga, gc, rfl, hra, hBy⟩
  clear hs1
  replace hX0 := hidden (box_below hX0.out hBy)
  have hby : Hid (Below w.heap.size w y) := hB0.out.trans (hBy.mono hB0.out.size)
  replace hra := hidden hra
  clear hBy hB0
  go_wp2_with fail
  go_loopw [7, 15] (fun u i wr => ∃ k : Nat, k ≤ A.length ∧ i = .int .i64 k ∧ Hid (wr.ownsRow y.heap.size 45 2 u k (hopR.flat ((A.take k).map fun x => ((x.ed : Int), back)))) ∧ Hid (Below y.heap.size y wr))
    (fun _ i _ => A.length - (intOf i).toNat)
  case atStart => exact ⟨0, Nat.zero_le _, rfl, World.ownsRow_nil .., Below.refl _ _⟩
  case round =>
    obtain ⟨k, hk, rfl, hown, hnx⟩ := hrel
    by_cases hlt : k < A.length
    · have hlt' : (k : Int) < (A.length : Int) := by omega
      obtain ⟨oa, oc, rfl⟩ := own_shape hown.out
      obtain ⟨gb, off, rfl, hbb, d0, d1, d2, d3⟩ := arc_at (hra.out.below hnx.out) hlt
      have htk := hidden (take_snocR A Ar.none k hlt)
      obtain ⟨⟨c0, c1⟩, -⟩ := box2w (box_below hX0.out hnx.out)
      generalize A.getD k Ar.none = p at *
      obtain ⟨pl, pt, pw, pe⟩ := p
      simp only at d0 d1 d2 d3
      have hX := hidden (heap_alloc_new wr (.cells #[.int .i64 (pl : Int), .int .i64 (pt : Int), .int .i64 (pw : Int), .int .i64 (pe : Int)] 78))
      obtain ⟨⟨q0, q1, q2, q3⟩, -⟩ := box4z hX.out
      have hn1 : Hid (Below y.heap.size y (wr.alloc (.cells #[.int .i64 (pl : Int), .int .i64 (pt : Int), .int .i64 (pw : Int), .int .i64 (pe : Int)] 78))) := hnx.out.alloc hnx.out.size _
      obtain ⟨⟨g0, g1⟩, -⟩ := box2w (box_below hX0.out hn1.out)
      have ho1 := hidden (hown.out.alloc (.cells #[.int .i64 (pl : Int), .int .i64 (pt : Int), .int .i64 (pw : Int), .int .i64 (pe : Int)] 78))
      have hone := hidden (SlR.oneR (R := hopR) (wr.alloc (.cells #[.int .i64 (pl : Int), .int .i64 (pt : Int), .int .i64 (pw : Int), .int .i64 (pe : Int)] 78)) ((pe : Int), back) 45)
      have hwr1 : (wr.alloc (.cells #[.int .i64 (pl : Int), .int .i64 (pt : Int), .int .i64 (pw : Int), .int .i64 (pe : Int)] 78)).heap.size = wr.heap.size + 1 := by simp
      rw [hwr1] at hone
      clear hown
      go_wp2_with (at_builtin; go_loud (refine wpList_appH _ hopR rfl _ _ 26 rfl y.heap.size 45 i0 (.agg #[.int .i64 0, .bool false]) 2 16 Tryz.underlying26 hi hz0 hz1 hz2 rfl rfl rfl (owns_keep ho1.out ((Below.refl _ _).alloc (Nat.le_refl _) _)) rfl (hone.out) (by show _ + 1 ≤ _; unfold maxLen; omega) (by show (_ + 1) * 16 ≤ _; omega) (by have := hnx.out.size; simp at *; omega) ?_); intro v' w5 hown5 hgrow5)
      have hk5 : Hid (Below y.heap.size y w5) := hidden ((hn1.out.alloc hn1.out.size _).grown hgrow5 (hn1.out.alloc hn1.out.size (.cells #[.int .i64 (pe : Int), .bool back] 45)).size (fun j hj => (ho1.out.lt j hj).1))
      have hO5 : Hid (w5.ownsRow y.heap.size 45 2 v' (k + 1) (hopR.flat ((A.take (k + 1)).map fun x => ((x.ed : Int), back)))) := hidden (by
        rw [htk.out, List.map_append, Rec.flat_app]
        exact hown5)
      clear hown5 hgrow5 ho1 hn1 hnx hone hX
      go_wp2
      go_roundw
      case rel => exact ⟨k + 1, by omega, by go_num, hO5, hk5⟩
      case measure => simp [intOf]; omega
    · have hlt' : ¬ (k : Int) < (A.length : Int) := by omega
      obtain rfl : k = A.length := by omega
      rw [List.take_length] at hown
      have hby2 : Hid (Below w.heap.size w wr) := hby.out.trans (hnx.out.mono hby.out.size)
      rcases id hown.out.2 with ⟨rfl, h0⟩ | ⟨g, cap, cur, rfl, h2, -⟩
      · have hs0 := fun fv z => hpsort0_c none 0 fv z
        have hDe := hidden (hD.out [] (by
          have : A = [] := List.eq_nil_of_length_eq_zero h0
          rw [this]
          exact List.Perm.refl _) (fun i j _ hj => by cases hj))
        clear hown
        go_wp2_with fail
        refine (hs0 _ _).mono ?_
        rintro e z ⟨rfl, rfl⟩
        go_wp2
        go_ret
        exact ⟨_, rfl, by rw [← hDe.out]; exact ⟨none, 0, rfl, .inl rfl⟩, hby2.out⟩
      · have hs0 := hpsort_c wr y.heap.size g A.length cap (A.map fun x => ((x.ed : Int), back)) hown.out (by rw [List.length_map]) (by omega) h2
        have hyz := hidden hnx.out.size
        clear hown hnx
        go_wp2_with fail
        refine hs0.mono ?_
        rintro e z ⟨rfl, L', hr, hp, hsrt, hB, -⟩
        have hL : L'.length = A.length := by rw [hp.length_eq, List.length_map]
        have hLD := hD.out L' hp (fun i j h1 h2 => hsrt i j h1 (by omega))
        have hfin : Hid (HoldsR hopR z (.slice (some ⟨g, 0, none⟩) A.length cap) D) := hidden (by
          rw [← hLD]
          refine holdsR_of_owns (R := hopR) (base := y.heap.size) (e := 45) ?_
          rw [hL]
          exact hr)
        have hBf : Hid (Below w.heap.size w z) := hby2.out.trans (hB.mono hby.out.size)
        clear hr hp hsrt hB hL hLD hs0
        go_wp2
        go_ret
        exact ⟨_, rfl, hfin.out, hBf.out⟩
end Go.Proofs.YtfkcopokeofjoaaGreat
