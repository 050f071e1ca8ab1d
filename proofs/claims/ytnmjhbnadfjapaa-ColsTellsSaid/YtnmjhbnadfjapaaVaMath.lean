/-
  VALUES SORTED (slices.SortFunc at value.Cmp), by contract.
-/
import Derived.Test.YtnmjhbnadfjapaaVComp1
import Derived.Test.YtnmjhbnadfjapaaVRCmp
import Derived.Test.YtnmjhbnadfjapaaShelf
import Derived.Shelf.GgSortFunc.InsertionK
import Derived.Shelf.SlSortCmp.Insertion
import Derived.Shelf.SlSortCmp.WholeK
import Derived.Sort.Grow
import Derived.Deep.Draws
namespace Go.Proofs.Ytnmjhbnadfjapaa
open Go.ChangeShapes Go.WideShapes Go.ChangeAt Go.RowKit Go.Sort

/-- Draws, and blocks behind what was. -/
def LaidH (w w' : World) : Prop := ∃ q os, w' = grow (w.drewN q) os
theorem LaidH.refl (w : World) : LaidH w w := ⟨0, #[], by simp [grow, World.drewN]⟩
theorem LaidH.drew {w x : World} (h : LaidH w x) : LaidH w x.drew := by
  obtain ⟨q, os, rfl⟩ := h
  exact ⟨q + 1, os, rfl⟩
theorem LaidH.alloc {w x : World} (h : LaidH w x) (o : Obj) : LaidH w (x.alloc o) := by
  obtain ⟨q, os, rfl⟩ := h
  exact ⟨q, os ++ #[o], by rw [alloc_eq_grow, grow_grow]⟩
theorem LaidH.below {w x : World} (h : LaidH w x) : Below w.heap.size w x := by
  obtain ⟨q, os, rfl⟩ := h
  refine ⟨rfl, rfl, rfl, ?_, fun k hk => ?_⟩
  · simp [grow, World.drewN]
  · simp [grow, World.drewN, Array.getElem?_append_left hk]
theorem cmpS_anti (a b : ByteArray) : cmpS b a = -cmpS a b := by
  unfold cmpS ltS
  cases h1 : Op.bytesLess a.toList b.toList with
  | true => rw [less_asymm _ _ h1]; simp
  | false => cases h2 : Op.bytesLess b.toList a.toList <;> simp
theorem cmpS_self (a : ByteArray) : cmpS a a = 0 := by simp [cmpS, ltS, less_irrefl]
theorem cmpS_zero {a b : ByteArray} (h : cmpS a b = 0) : a = b := by
  unfold cmpS ltS at h
  cases h1 : Op.bytesLess a.toList b.toList with
  | true => rw [h1] at h; simp at h
  | false =>
    cases h2 : Op.bytesLess b.toList a.toList with
    | true => rw [h1, h2] at h; simp at h
    | false => exact tl_inj (less_tri _ _ h1 h2)
theorem less_trans : ∀ x y z : List UInt8, Op.bytesLess x y = true → Op.bytesLess y z = true → Op.bytesLess x z = true
  | [], [], _, h, _ => by simp [Op.bytesLess] at h
  | [], _ :: _, [], _, h => by simp [Op.bytesLess] at h
  | [], _ :: _, _ :: _, _, _ => by simp [Op.bytesLess]
  | _ :: _, [], _, h, _ => by simp [Op.bytesLess] at h
  | _ :: _, _ :: _, [], _, h => by simp [Op.bytesLess] at h
  | a :: x, b :: y, c :: z, h1, h2 => by
    simp only [Op.bytesLess, Bool.or_eq_true, Bool.and_eq_true, decide_eq_true_eq, beq_iff_eq] at h1 h2 ⊢
    rcases h1 with h1 | ⟨rfl, h1⟩
    · rcases h2 with h2 | ⟨rfl, h2⟩
      · exact .inl (UInt8.lt_trans h1 h2)
      · exact .inl h1
    · rcases h2 with h2 | ⟨rfl, h2⟩
      · exact .inl h2
      · exact .inr ⟨rfl, less_trans x y z h1 h2⟩
theorem cmpS_neg {a b : ByteArray} : cmpS a b < 0 ↔ ltS a b = true := by
  unfold cmpS
  by_cases h1 : ltS a b = true
  · simp [h1]
  · by_cases h2 : ltS b a = true <;> simp [h1, h2]
/-- One stands before the other. -/
theorem cmpI_neg {a b : Int} : cmpI a b < 0 ↔ a < b := by
  unfold cmpI
  split
  · simp [*]
  · split <;> simp <;> omega
theorem cmpI_zero {a b : Int} : cmpI a b = 0 ↔ a = b := by
  unfold cmpI
  split
  · simp; omega
  · split
    · simp; omega
    · simp; omega
def vacmp (x y : Va) : Int := orS (cmpI x.k y.k) (cmpI x.n y.n) (cmpS x.t y.t)
theorem vacmp_neg {x y : Va} : vacmp x y < 0 ↔ x.k < y.k ∨ (x.k = y.k ∧ (x.n < y.n ∨ (x.n = y.n ∧ ltS x.t y.t = true))) := by
  unfold vacmp orS
  have h1 := cmpI_neg (a := x.k) (b := y.k)
  have h2 := cmpI_neg (a := x.n) (b := y.n)
  have h3 := cmpI_zero (a := x.k) (b := y.k)
  have h4 := cmpI_zero (a := x.n) (b := y.n)
  have h5 := cmpS_neg (a := x.t) (b := y.t)
  by_cases e1 : x.k = y.k
  · rw [if_pos (h3.2 e1)]
    by_cases e2 : x.n = y.n
    · rw [if_pos (h4.2 e2), h5]
      constructor
      · intro h; exact .inr ⟨e1, .inr ⟨e2, h⟩⟩
      · rintro (h | ⟨_, h | ⟨_, h⟩⟩)
        · omega
        · omega
        · exact h
    · rw [if_neg (fun h => e2 (h4.1 h)), h2]
      constructor
      · intro h; exact .inr ⟨e1, .inl h⟩
      · rintro (h | ⟨_, h | ⟨h, _⟩⟩)
        · omega
        · exact h
        · exact absurd h e2
  · rw [if_neg (fun h => e1 (h3.1 h)), h1]
    constructor
    · intro h; exact .inl h
    · rintro (h | ⟨h, _⟩)
      · exact h
      · exact absurd h e1
theorem ltS_trans {a b c : ByteArray} (h1 : ltS a b = true) (h2 : ltS b c = true) : ltS a c = true := less_trans _ _ _ h1 h2
theorem vacmp_irrefl (x : Va) : ¬ vacmp x x < 0 := by
  rw [vacmp_neg]
  rintro (h | ⟨_, h | ⟨_, h⟩⟩)
  · omega
  · omega
  · rw [show ltS x.t x.t = false from less_irrefl _] at h; cases h
theorem vacmp_trans {x y z : Va} (h1 : vacmp x y < 0) (h2 : vacmp y z < 0) : vacmp x z < 0 := by
  rw [vacmp_neg] at *
  rcases h1 with h1 | ⟨e1, h1⟩ <;> rcases h2 with h2 | ⟨e2, h2⟩
  · exact .inl (by omega)
  · exact .inl (by omega)
  · exact .inl (by omega)
  · refine .inr ⟨by omega, ?_⟩
    rcases h1 with h1 | ⟨e3, h1⟩ <;> rcases h2 with h2 | ⟨e4, h2⟩
    · exact .inl (by omega)
    · exact .inl (by omega)
    · exact .inl (by omega)
    · exact .inr ⟨by omega, ltS_trans h1 h2⟩
theorem vacmp_tri {x y : Va} (h1 : ¬ vacmp x y < 0) (h2 : ¬ vacmp y x < 0) : x = y := by
  rw [vacmp_neg] at h1 h2
  have e1 : x.k = y.k := by
    by_cases a : x.k < y.k
    · exact absurd (.inl a) h1
    · by_cases b : y.k < x.k
      · exact absurd (.inl b) h2
      · omega
  have e2 : x.n = y.n := by
    by_cases a : x.n < y.n
    · exact absurd (.inr ⟨e1, .inl a⟩) h1
    · by_cases b : y.n < x.n
      · exact absurd (.inr ⟨e1.symm, .inl b⟩) h2
      · omega
  have e3 : x.t = y.t := by
    refine tl_inj (less_tri _ _ ?_ ?_)
    · cases h : Op.bytesLess x.t.toList y.t.toList with
      | false => rfl
      | true => exact absurd (.inr ⟨e1, .inr ⟨e2, h⟩⟩) h1
    · cases h : Op.bytesLess y.t.toList x.t.toList with
      | false => rfl
      | true => exact absurd (.inr ⟨e1.symm, .inr ⟨e2.symm, h⟩⟩) h2
  cases x; cases y; simp_all
theorem swo_va : Go.Sort.SWO (Go.Proofs.ltOf fun x y : Va => vacmp x y) := by
  refine ⟨fun x => ?_, fun x y z h1 h2 => ?_, fun x y z h1 h2 => ?_⟩
  · simp only [Go.Proofs.ltOf, decide_eq_false_iff_not]; exact vacmp_irrefl x
  · simp only [Go.Proofs.ltOf, decide_eq_true_eq] at *
    exact vacmp_trans h1 h2
  · simp only [Go.Proofs.ltOf, decide_eq_false_iff_not] at *
    intro h3
    by_cases e1 : vacmp y x < 0
    · exact h2 (vacmp_trans e1 h3)
    · have := vacmp_tri h1 e1
      subst this
      exact h2 h3
set_option maxRecDepth 1000000 in
theorem vcmpL_c (k n k' n' : Int) (s s' : ByteArray) (w : World) : Calls Try.prog 52 #[.agg #[.int .i64 k, .int .i64 n, .string s], .agg #[.int .i64 k', .int .i64 n', .string s']] w
    fun e w' => e = .returned (.int .i64 (orS (cmpI k k') (cmpI n n') (cmpS s s'))) ∧ LaidH w w' := by
  have hi := fun a b w => cmpi_c a b w
  have hs := fun w => cmps_c s s' w
  generalize cmpS s s' = C at *
  have hk := fun w => hi k k' w
  have hn := fun w => hi n n' w
  clear hi
  generalize cmpI k k' = A at *
  generalize cmpI n n' = B at *
  have ho := fun b w h0 h1 h2 => or_c A B C b w h0 h1 h2
  generalize orS A B C = R at *
  go_enter Try.func52, Try.ntmps52
  go_wp2_with fail
  obtain ⟨hB, hc1, hc2⟩ := boxes2 w #[.int .i64 k, .int .i64 n, .string s] #[.int .i64 k', .int .i64 n', .string s'] 27 27
  obtain ⟨w2, hw2⟩ : ∃ w2, w2 = ((w.alloc (.cells #[.int .i64 k, .int .i64 n, .string s] 27)).alloc (.cells #[.int .i64 k', .int .i64 n', .string s'] 27)).drew := ⟨_, rfl⟩
  rw [← hw2] at hB hc1 hc2
  have hLd : Hid (LaidH w w2) := hidden (by rw [hw2]; exact (((LaidH.refl w).alloc _).alloc _).drew)
  have f0 := hc1 0 _ rfl
  have f1 := hc1 1 _ rfl
  have f2 := hc1 2 _ rfl
  have g0 := hc2 0 _ rfl
  have g1 := hc2 1 _ rfl
  have g2 := hc2 2 _ rfl
  clear hc1 hc2
  refine still_tail2 15 (by kernel_rfl) (by kernel_rfl) w2 hw2 ?_
  clear hw2
  simp only [List.take_succ_cons, List.take_zero, List.drop_succ_cons, List.drop_zero]
  repeat still_step
  still_call (hk _)
  repeat still_step
  still_call (hn _)
  repeat still_step
  still_call (hs _)
  refine wpStill_nil ?_
  clear hk hn hs f0 f1 f2 g0 g1 g2
  clear hB
  go_wp2_with fail
  refine (ho w2.heap.size _ (by rw [World.cell?_alloc_new]; rfl) (by rw [World.cell?_alloc_new]; rfl) (by rw [World.cell?_alloc_new]; rfl)).mono ?_
  rintro e w3 ⟨rfl, rfl⟩
  go_wp2
  go_ret
  exact ⟨rfl, hLd.out.alloc _⟩
theorem flat_va (d : Array Va) : Go.Sort.flatK (fun x => valR.enc x) 3 d = (valR.flat d.toList).toArray := by
  have hs : (Go.Sort.flatK (fun x => valR.enc x) 3 d).size = d.size * 3 := by simp
  have hfl : (valR.flat d.toList).length = d.size * 3 := by rw [Rec.flat_len]; simp [valR]
  apply Array.ext
  · rw [hs]; simp [hfl]
  · intro t h1 h2
    rw [hs] at h1
    have hd : t / 3 < d.size := by omega
    have hg := Go.Sort.get_flatK (fun x => valR.enc x) 3 d t h1
    rw [getElem!_pos _ t (by rw [hs]; exact h1)] at hg
    rw [hg]
    have he := Rec.flat_at (R := valR) d.toList (t / 3) (t % 3) (by simpa using hd) (by show _ < 3; omega)
    rw [show t / 3 * valR.n + t % 3 = t by show t / 3 * 3 + _ = _; omega] at he
    have hp : d.toList.getD (t / 3) valR.dflt = d[t / 3]! := by
      rw [getElem!_pos d (t / 3) hd]; simp [List.getD, hd]
    rw [hp] at he
    have hl : t % 3 < (valR.enc d[t / 3]!).length := by rw [valR.len]; show _ < 3; omega
    rw [getElem!_pos (valR.enc d[t / 3]!) (t % 3) hl]
    rw [List.getElem?_eq_getElem hl] at he
    have h3 : t < (valR.flat d.toList).length := by omega
    rw [List.getElem?_eq_getElem h3] at he
    have he := Option.some.inj he
    simp only [List.getElem_toArray]
    exact he.symm
theorem sw_block (w : World) (g m : Nat) (dk : Array Va) (os : Array Obj) {cur : Array Value} {e : TypeId} (h : w.heap[g]? = some (.cells cur e (0, 0))) :
    (Go.Proofs.sortWorldK (fun x => valR.enc x) 3 w g 0 m dk os).heap[g]? = some (.cells (Go.Sort.putCells id 0 (Go.Sort.flatK (fun x => valR.enc x) 3 dk) cur) e (0, 0)) := by
  have hg : g < w.heap.size := (Array.getElem?_eq_some_iff.1 h).1
  simp only [Go.Proofs.sortWorldK, Go.Sort.grow, Go.Sort.putRowK, Go.Sort.putRow, Go.Sort.mapBlock, Go.Sort.ahead]
  rw [Array.getElem?_append_left (by simpa using hg), Array.getElem?_modify, if_pos rfl, h]
  rfl
theorem sw_other (w : World) (g m : Nat) (dk : Array Va) (os : Array Obj) {j : Nat} (hj : j < w.heap.size) (hne : j ≠ g) :
    (Go.Proofs.sortWorldK (fun x => valR.enc x) 3 w g 0 m dk os).heap[j]? = w.heap[j]? := by
  simp only [Go.Proofs.sortWorldK, Go.Sort.grow, Go.Sort.putRowK, Go.Sort.putRow, Go.Sort.mapBlock, Go.Sort.ahead]
  rw [Array.getElem?_append_left (by simpa using hj), Array.getElem?_modify, if_neg (Ne.symm hne)]
theorem sw_below (w : World) (g m : Nat) (dk : Array Va) (os : Array Obj) {B : Nat} (hB : B ≤ g) (hw : B ≤ w.heap.size) :
    Below B w (Go.Proofs.sortWorldK (fun x => valR.enc x) 3 w g 0 m dk os) := by
  refine ⟨rfl, rfl, rfl, ?_, fun j hj => sw_other w g m dk os (by omega) (by omega)⟩
  simp [Go.Proofs.sortWorldK, Go.Sort.grow, Go.Sort.putRowK, Go.Sort.putRow, Go.Sort.mapBlock, Go.Sort.ahead]
theorem put_take (F cur : Array Value) (n : Nat) (hF : F.size = n) (hn : n ≤ cur.size) : (Go.Sort.putCells id 0 F cur).toList.take n = F.toList := by
  apply List.ext_getElem?
  intro t
  by_cases ht : t < n
  · have hc : t < cur.size := by omega
    have hf : t < F.size := by omega
    rw [List.getElem?_take_of_lt ht, Array.getElem?_toList, Array.getElem?_toList]
    simp [Go.Sort.putCells, hc, hf]
  · rw [List.getElem?_eq_none (by simp; omega), List.getElem?_eq_none (by simp; omega)]
theorem sw_row (w : World) (B g n cap m : Nat) (L : List Va) (dk : Array Va) (os : Array Obj) (hd : dk.size = n) (hr : w.ownsRow B 27 3 (.slice (some ⟨g, 0, none⟩) n cap) n (valR.flat L)) :
    (Go.Proofs.sortWorldK (fun x => valR.enc x) 3 w g 0 m dk os).ownsRow B 27 3 (.slice (some ⟨g, 0, none⟩) n cap) n (valR.flat dk.toList) := by
  obtain ⟨hl, h⟩ := hr
  refine ⟨by rw [Rec.flat_len]; simp [hd, valR], ?_⟩
  rcases h with ⟨h, _⟩ | ⟨g', cap', cur, he, h2, h3, h4, h5, h6, h7⟩
  · cases h
  · simp only [Value.slice.injEq, Option.some.injEq, Addr.mk.injEq, and_true, true_and] at he
    obtain ⟨rfl, rfl⟩ := he
    refine .inr ⟨g, cap, _, rfl, h2, sw_block w g m dk os h3, h4, h5, by simpa [Go.Sort.putCells] using h6, ?_⟩
    rw [put_take _ _ _ (by simp [hd]) (by rw [h6]; exact Nat.mul_le_mul_right 3 h4), flat_va]
theorem holdsK_row (w : World) (B g cap : Nat) (d : Array Va) (hr : w.ownsRow B 27 3 (.slice (some ⟨g, 0, none⟩) d.size cap) d.size (valR.flat d.toList)) :
    Go.Sort.HoldsK (fun x => valR.enc x) 3 w g 0 d := by
  intro j hj
  rw [flat_va] at hj ⊢
  have hj' : j < (valR.flat d.toList).length := by simpa using hj
  have hget : (valR.flat d.toList)[j]? = some (valR.flat d.toList).toArray[j]! := by
    rw [List.getElem?_eq_getElem hj', getElem!_pos (valR.flat d.toList).toArray j hj]; simp
  refine ⟨by rw [Nat.zero_add]; exact own_cellV hr hget, by rw [Nat.zero_add]; exact hr.frozenAt j⟩

/-! ## The sort -/
theorem enters_order : ∀ args w, (callFunc 52 args).run Try.prog w = .ok (.enter 52 args) w := enters_of Try.func52 (by kernel_rfl) rfl
theorem agg_va : ∀ w, (isAgg 27).run Try.prog w = .ok true w := fun w => by kernel_rfl
theorem size_va : ∀ w, (Go.sizeOf 27).run Try.prog w = .ok 3 w := fun w => by kernel_rfl
theorem cmpLays_va (w : World) (g n : Nat) : Go.Proofs.CmpLays Try.prog 52 #[] (fun x : Va => valR.enc x) 3 (fun x y => vacmp x y) g 0 n w := fun _ _ _ _ x y => vcmpL_c x.k x.n y.k y.n x.t y.t _
/-- Steps in a row of their own, sorted. -/
theorem vasort_c (w : World) (B g n cap : Nat) (L : List Va) (h : w.ownsRow B 27 3 (.slice (some ⟨g, 0, none⟩) n cap) n (valR.flat L)) (hL : L.length = n) (hn : n ≤ 17592186044416) (hB : B ≤ g) :
    Calls Try.prog 51 #[.slice (some ⟨g, 0, none⟩) n cap, .func (.func 52) #[] #[]] w fun e w' =>
      e = .returned (.tuple #[]) ∧ ∃ L' : List Va, w'.ownsRow B 27 3 (.slice (some ⟨g, 0, none⟩) n cap) n (valR.flat L') ∧ L'.Perm L ∧ (∀ i j, i < j → j < n → ¬ vacmp (L'.getD j Va.none) (L'.getD i Va.none) < 0) ∧ Below B w w' ∧ (∀ j, j < w.heap.size → j ≠ g → w'.heap[j]? = w.heap[j]?) := by
  have hDn : L.toArray.size = n := by simpa using hL
  have hrow' : w.ownsRow B 27 3 (.slice (some ⟨g, 0, none⟩) L.toArray.size cap) L.toArray.size (valR.flat L.toArray.toList) := by rw [hDn]; exact h
  have hg : g < w.heap.size := by
    rcases h.2 with ⟨e, _⟩ | ⟨g', cap', cur, e, _, hc, _⟩
    · cases e
    · simp only [Value.slice.injEq, Option.some.injEq, Addr.mk.injEq, and_true, true_and] at e
      obtain ⟨rfl, _⟩ := e
      exact (Array.getElem?_eq_some_iff.1 hc).1
  have hcon := Go.Proofs.AnyQ.slices_SortFunc Try.sortItem 3 agg_va size_va (fun x : Va => valR.enc x) (fun _ => rfl) (fun x v hv => valR.one x v hv) (fun x y => vacmp x y) swo_va 52 #[] g 0 cap L.toArray w enters_order (cmpLays_va w g _) (holdsK_row w B g cap L.toArray hrow') hg (by rw [hDn]; omega)
  change Calls Try.prog 51 _ _ _ at hcon
  rw [hDn] at hcon
  refine hcon.mono ?_
  rintro e w' ⟨rfl, d', m, os, hp, hs, rfl⟩
  obtain ⟨hps, -, hpp⟩ := hp
  rw [hDn] at hps
  have hpp' : d'.toList.Perm L := by
    have e1 : d'.extract 0 n = d' := by rw [← hps]; simp
    have e2 : L.toArray.extract 0 n = L.toArray := by rw [← hDn]; simp
    rw [e1, e2] at hpp
    simpa using hpp
  refine ⟨rfl, d'.toList, sw_row w B g n cap m _ d' os hps h, hpp', ?_, sw_below w g m d' os hB (by omega), fun j hj hne => sw_other w g m d' os hj hne⟩
  intro i j hij hj
  have h1 := hs i j (Nat.zero_le _) hij hj
  have hj' : j < d'.size := by omega
  have hi' : i < d'.size := by omega
  rw [getElem!_pos d' j hj', getElem!_pos d' i hi'] at h1
  simpa [Go.Proofs.ltOf, List.getD, hj', hi'] using h1
set_option maxHeartbeats 2000000 in
theorem vains0_c (p : Option Addr) (cap : Nat) (fv : Value) (w : World) :
    Calls Try.prog 77 #[.slice p 0 cap, .int .i64 0, .int .i64 0, fv] w fun e w' => e = .returned (.tuple #[]) ∧ w' = w := by
  go_enter Try.func77, Try.ntmps77
  go_wp2
  refine wp_loop_rounds 1 ?_
  rw [rounds_succ]
  go_wp2
  go_end0
  exact ⟨rfl, rfl⟩
set_option maxHeartbeats 2000000 in
set_option maxRecDepth 100000 in
theorem vapdq0_c (p : Option Addr) (cap : Nat) (lim : Int) (fv : Value) (w : World) :
    Calls Try.prog 69 #[.slice p 0 cap, .int .i64 0, .int .i64 0, .int .i64 lim, fv] w fun e w' => e = .returned (.tuple #[]) ∧ w' = w := by
  have hi := fun W => vains0_c p cap fv W
  go_enter Try.func69, Try.ntmps69
  go_wp2
  refine wp_loop_rounds 1 ?_
  rw [rounds_succ]
  go_wp2_with (go_at_call 77; refine (hi _).mono ?_; rintro e w' ⟨rfl, rfl⟩)
  (try simp only [Exit.inBlock, Exit.then]); refine bodyPost_ret (results_none rfl _ _ _) rfl ?_
  exact ⟨rfl, rfl⟩
set_option maxHeartbeats 2000000 in
theorem vasort0_c (p : Option Addr) (cap : Nat) (fv : Value) (w : World) :
    Calls Try.prog 51 #[.slice p 0 cap, fv] w fun e w' => e = .returned (.tuple #[]) ∧ w' = w := by
  have hp := fun lim W => vapdq0_c p cap lim fv W
  have hl := fun W => Try.bits_Len 0 W (by omega) (by omega)
  go_enter Try.func51, Try.ntmps51
  go_wp2_with (first | (go_at_call 70; refine (hl _).mono ?_; rintro e w' ⟨rfl, rfl⟩) | (go_at_call 69; refine (hp _ _).mono ?_; rintro e w' ⟨rfl, rfl⟩) | fail)
  go_end0
  exact ⟨rfl, rfl⟩
end Go.Proofs.Ytnmjhbnadfjapaa
/-
  VALUES IN ORDER, each once: mathematics; the values of a name.
-/
namespace Go.Proofs.Ytnmjhbnadfjapaa
open Go.ChangeShapes Go.WideShapes Go.ChangeAt Go.RowKit Go.Maps

/-- Strictly in order. -/
def Strict (L : List Va) : Prop := L.Pairwise fun a b => vacmp a b < 0
theorem vacmp_ge {x y : Va} (h : ¬ vacmp x y < 0) (hne : x ≠ y) : vacmp y x < 0 := by
  by_cases e : vacmp y x < 0
  · exact e
  · exact absurd (vacmp_tri h e) hne
/-- Where a value goes. -/
structure PlaceS (y : Va) (L : List Va) (k : Nat) : Prop where
  le : k ≤ L.length
  ahead : ∀ j, j < k → vacmp (L.getD j Va.none) y < 0
/-- The list with one value more, each once. -/
structure PutS (y : Va) (L L' : List Va) : Prop where
  is : ∃ k, PlaceS y L k ∧ (k < L.length → ¬ vacmp (L.getD k Va.none) y < 0) ∧ ((k < L.length ∧ L.getD k Va.none = y ∧ L' = L) ∨ (¬ (k < L.length ∧ L.getD k Va.none = y) ∧ L' = L.take k ++ y :: L.drop k))
theorem getD_memV {L : List Va} {k : Nat} (hk : k < L.length) : L.getD k Va.none ∈ L := by
  have : L.getD k Va.none = L[k] := by simp [List.getD, hk]
  rw [this]; exact List.getElem_mem hk
theorem PutS.facts {y : Va} {L L' : List Va} (h : PutS y L L') (hs : Strict L) : Strict L' ∧ (∀ x, x ∈ L' ↔ x = y ∨ x ∈ L) ∧ L'.length ≤ L.length + 1 := by
  obtain ⟨k, hp, hb, h | h⟩ := h
  · obtain ⟨hk, he, rfl⟩ := h
    refine ⟨hs, fun x => ⟨.inr, fun h => ?_⟩, by omega⟩
    rcases h with rfl | h
    · rw [← he]; exact getD_memV hk
    · exact h
  · obtain ⟨hne, rfl⟩ := h
    have hk := hp.le
    have hap : L.take k ++ L.drop k = L := List.take_append_drop ..
    have hs' := hs
    rw [← hap] at hs'
    obtain ⟨s1, s2, s3⟩ := List.pairwise_append.1 hs'
    have hbef : ∀ a ∈ L.take k, vacmp a y < 0 := fun a ha => by
      obtain ⟨j, hj, rfl⟩ := List.mem_iff_getElem.1 ha
      rw [List.length_take] at hj
      have := hp.ahead j (by omega)
      have e : L.getD j Va.none = (L.take k)[j]'(by rw [List.length_take]; omega) := by simp [List.getD, show j < L.length by omega]
      rw [← e]; exact this
    have haft : ∀ a ∈ L.drop k, vacmp y a < 0 := fun a ha => by
      by_cases hk2 : k < L.length
      · have h0 := vacmp_ge (hb hk2) (fun e => hne ⟨hk2, e⟩)
        have e : L.drop k = L.getD k Va.none :: L.drop (k + 1) := by
          rw [List.drop_eq_getElem_cons hk2]; simp [List.getD, hk2]
        rw [e] at ha s2
        rcases List.mem_cons.1 ha with rfl | ha
        · exact h0
        · exact vacmp_trans h0 ((List.pairwise_cons.1 s2).1 a ha)
      · rw [List.drop_eq_nil_of_le (by omega)] at ha; cases ha
    refine ⟨List.pairwise_append.2 ⟨s1, List.pairwise_cons.2 ⟨haft, s2⟩, fun a ha b hb => ?_⟩, fun x => ?_, by simp; omega⟩
    · rcases List.mem_cons.1 hb with rfl | hb
      · exact hbef a ha
      · exact s3 a ha b hb
    · conv => rhs; rw [← hap]
      simp only [List.mem_append, List.mem_cons]
      constructor
      · rintro (h | h | h)
        · exact .inr (.inl h)
        · exact .inl h
        · exact .inr (.inr h)
      · rintro (h | h | h)
        · exact .inr (.inl h)
        · exact .inl h
        · exact .inr (.inr h)
/-- Two of the same members are one. -/
theorem Strict.same : ∀ {A B : List Va}, Strict A → Strict B → (∀ x, x ∈ A ↔ x ∈ B) → A = B
  | [], [], _, _, _ => rfl
  | [], b :: B, _, _, h => by have := (h b).2 List.mem_cons_self; cases this
  | a :: A, [], _, _, h => by have := (h a).1 List.mem_cons_self; cases this
  | a :: A, b :: B, hA, hB, h => by
    obtain ⟨a1, a2⟩ := List.pairwise_cons.1 hA
    obtain ⟨b1, b2⟩ := List.pairwise_cons.1 hB
    have e : a = b := by
      rcases List.mem_cons.1 ((h a).1 List.mem_cons_self) with h1 | h1
      · exact h1
      · rcases List.mem_cons.1 ((h b).2 List.mem_cons_self) with h2 | h2
        · exact h2.symm
        · have := vacmp_trans (b1 a h1) (a1 b h2)
          exact absurd this (vacmp_irrefl _)
    subst e
    rw [Strict.same a2 b2 fun x => ?_]
    have irr : ∀ {l : List Va}, (∀ z ∈ l, vacmp a z < 0) → a ∉ l := fun hl hm => by
      have := hl a hm; exact absurd this (vacmp_irrefl _)
    constructor
    · intro hx
      rcases List.mem_cons.1 ((h x).1 (List.mem_cons_of_mem _ hx)) with rfl | h1
      · exact absurd hx (irr a1)
      · exact h1
    · intro hx
      rcases List.mem_cons.1 ((h x).2 (List.mem_cons_of_mem _ hx)) with rfl | h1
      · exact absurd hx (irr b1)
      · exact h1
/-- A list in order, its runs taken together. -/
theorem cpt_strict (L : List Va) (hs : ∀ i j, i < j → j < L.length → ¬ vacmp (L.getD j Va.none) (L.getD i Va.none) < 0) : ∀ k, k ≤ L.length → Strict (cpt (L.take k)) ∧ ∀ x, x ∈ cpt (L.take k) ↔ x ∈ L.take k
  | 0, _ => by simp [cpt, Strict]
  | k + 1, hk => by
    obtain ⟨h1, h2⟩ := cpt_strict L hs k (by omega)
    by_cases h0 : k = 0
    · subst h0
      rw [cpt_one L (by omega)]
      refine ⟨?_, fun x => Iff.rfl⟩
      obtain ⟨a, l, rfl⟩ : ∃ a l, L = a :: l := by cases L with
        | nil => simp at hk
        | cons a l => exact ⟨a, l, rfl⟩
      simp [Strict]
    · have ht := take_snocR L Va.none k (by omega)
      by_cases he : L.getD k Va.none = L.getD (k - 1) Va.none
      · rw [cpt_drop L (by omega) (by omega) he]
        refine ⟨h1, fun x => ?_⟩
        rw [h2, ht, List.mem_append, List.mem_singleton]
        refine ⟨.inl, fun h => ?_⟩
        rcases h with h | rfl
        · exact h
        · rw [he]
          have : L.getD (k - 1) Va.none = (L.take k)[k - 1]'(by rw [List.length_take]; omega) := by simp [List.getD, show k - 1 < L.length by omega]
          rw [this]
          exact List.getElem_mem _
      · rw [cpt_keep L (by omega) (by omega) he]
        refine ⟨List.pairwise_append.2 ⟨h1, List.pairwise_singleton .., fun a ha b hb => ?_⟩, fun x => ?_⟩
        · rw [List.mem_singleton] at hb
          subst hb
          rw [h2] at ha
          obtain ⟨j, hj, rfl⟩ := List.mem_iff_getElem.1 ha
          rw [List.length_take] at hj
          have e : (L.take k)[j]'(by rw [List.length_take]; omega) = L.getD j Va.none := by simp [List.getD, show j < L.length by omega]
          rw [e]
          have h4 : vacmp (L.getD (k - 1) Va.none) (L.getD k Va.none) < 0 := vacmp_ge (hs (k - 1) k (by omega) (by omega)) he
          by_cases e2 : j = k - 1
          · subst e2; exact h4
          · by_cases e3 : L.getD j Va.none = L.getD (k - 1) Va.none
            · rw [e3]; exact h4
            · exact vacmp_trans (vacmp_ge (hs j (k - 1) (by omega) (by omega)) (Ne.symm e3)) h4
        · rw [ht, List.mem_append, List.mem_append, h2]
def toVa (p : Pp) : Va := ⟨p.k, p.n, p.t⟩
/-- The values of a name, node by node. -/
def colV (ns : List Nd) (s : ByteArray) (k : Nat) : List Va := ((namF ns ns.length 0 s).take k).map fun c => toVa c.2
/-- A node's value of a name. -/
def getV (ns : List Nd) (s : ByteArray) (i : Nat) : Va := toVa (pv (ns.getD i Nd.none).ps s)
theorem colV_snoc (ns : List Nd) (s : ByteArray) (d : Cl) (k : Nat) (hk : k < (namF ns ns.length 0 s).length) : colV ns s (k + 1) = colV ns s k ++ [toVa ((namF ns ns.length 0 s).getD k d).2] := by
  unfold colV
  rw [take_snocR _ d k hk, List.map_append]
  rfl
theorem colV_len (ns : List Nd) (s : ByteArray) (k : Nat) (hk : k ≤ (namF ns ns.length 0 s).length) : (colV ns s k).length = k := by
  unfold colV
  rw [List.length_map, List.length_take]; omega
theorem mem_col (ns : List Nd) (s : ByteArray) (x : Va) : x ∈ colV ns s (namF ns ns.length 0 s).length ↔ ∃ i, i < ns.length ∧ ∃ p ∈ (ns.getD i Nd.none).ps, p.s = s ∧ toVa p = x := by
  unfold colV
  rw [List.take_length]
  unfold namF allP
  rw [List.take_zero, List.map_nil, List.append_nil]
  constructor
  · intro h
    obtain ⟨c, hc, rfl⟩ := List.mem_map.1 h
    obtain ⟨h1, h2⟩ := List.mem_filter.1 hc
    obtain ⟨i, hi, h3⟩ := List.mem_flatMap.1 h1
    obtain ⟨p, hp, rfl⟩ := List.mem_map.1 h3
    exact ⟨i, List.mem_range.1 hi, p, hp, of_decide_eq_true h2, rfl⟩
  · rintro ⟨i, hi, p, hp, hs, rfl⟩
    refine List.mem_map.2 ⟨((i : Int), p), List.mem_filter.2 ⟨List.mem_flatMap.2 ⟨i, List.mem_range.2 hi, List.mem_map.2 ⟨p, hp, rfl⟩⟩, decide_eq_true hs⟩, rfl⟩
theorem pv_mem {ps : List Pp} {s : ByteArray} (h : (pv ps s).k ≠ 0) : pv ps s ∈ ps ∧ (pv ps s).s = s := by
  unfold pv at h ⊢
  cases e : ps.find? (fun p => p.s.toList == s.toList) with
  | none => rw [e] at h; exact absurd rfl h
  | some p =>
    simp only [Option.getD_some]
    have h9 := List.find?_some (p := fun p : Pp => p.s.toList == s.toList) e
    exact ⟨List.mem_of_find?_eq_some e, tl_inj (eq_of_beq h9)⟩
theorem pv_of {ps : List Pp} {s : ByteArray} (hd : ps.Pairwise fun p q => p.s ≠ q.s) {p : Pp} (hp : p ∈ ps) (hs : p.s = s) : pv ps s = p := by
  induction ps with
  | nil => cases hp
  | cons q r ih =>
    obtain ⟨h1, h2⟩ := List.pairwise_cons.1 hd
    unfold pv
    rw [List.find?_cons]
    rcases List.mem_cons.1 hp with rfl | hp
    · rw [hs]; simp
    · have hne : (q.s.toList == s.toList) = false := by
        simp only [beq_eq_false_iff_ne]
        exact fun e => h1 p hp (by rw [hs]; exact tl_inj e)
      rw [hne]
      exact ih h2 hp
theorem good_kind {x : Nd} (h : nodeE x = 0) {p : Pp} (hp : p ∈ x.ps) : p.k ≠ 0 := by
  unfold nodeE at h
  split at h
  · split at h
    · cases h
    · rename_i h2
      intro h0
      refine h2 (List.any_eq_true.2 ⟨p, hp, ?_⟩)
      unfold badP
      rw [h0]
      simp
  · cases h
theorem mem_get {g : Gr} (hg : (checkG g).2 = 0) (s : ByteArray) (x : Va) : x ∈ colV g.ns s (namF g.ns g.ns.length 0 s).length ↔ ∃ i, i < g.ns.length ∧ getV g.ns s i = x ∧ x.k ≠ 0 := by
  rw [mem_col]
  constructor
  · rintro ⟨i, hi, p, hp, hs, rfl⟩
    have hm : g.ns.getD i Nd.none ∈ g.ns := getD_memG (d := Nd.none) hi
    have h0 := good_nodes hg _ hm
    exact ⟨i, hi, by unfold getV; rw [pv_of (good_names h0) hp hs], good_kind h0 hp⟩
  · rintro ⟨i, hi, rfl, hk⟩
    obtain ⟨h1, h2⟩ := pv_mem (ps := (g.ns.getD i Nd.none).ps) (s := s) hk
    exact ⟨i, hi, _, h1, h2, rfl⟩
/-- What the reference's list tells. -/
def TellsV (ns : List Nd) (s : ByteArray) (k : Nat) (L : List Va) : Prop := Strict L ∧ L.length ≤ k ∧ ∀ x, x ∈ L ↔ ∃ i, i < k ∧ getV ns s i = x ∧ x.k ≠ 0
theorem TellsV.zero (ns : List Nd) (s : ByteArray) : TellsV ns s 0 [] := ⟨List.Pairwise.nil, Nat.le_refl _, fun x => by simp⟩
theorem TellsV.skip {ns : List Nd} {s : ByteArray} {k : Nat} {L : List Va} (h : TellsV ns s k L) (h0 : (getV ns s k).k = 0) : TellsV ns s (k + 1) L := by
  refine ⟨h.1, by have := h.2.1; omega, fun x => (h.2.2 x).trans ⟨fun ⟨i, hi, hx⟩ => ⟨i, by omega, hx⟩, fun ⟨i, hi, hx, hk⟩ => ?_⟩⟩
  by_cases e : i = k
  · subst e; rw [hx] at h0; exact absurd h0 hk
  · exact ⟨i, by omega, hx, hk⟩
theorem TellsV.put {ns : List Nd} {s : ByteArray} {k : Nat} {L L' : List Va} (h : TellsV ns s k L) (h0 : (getV ns s k).k ≠ 0) (hp : PutS (getV ns s k) L L') : TellsV ns s (k + 1) L' := by
  obtain ⟨f1, f2, f3⟩ := hp.facts h.1
  refine ⟨f1, by have := h.2.1; omega, fun x => (f2 x).trans ⟨?_, ?_⟩⟩
  · rintro (rfl | hx)
    · exact ⟨k, by omega, rfl, h0⟩
    · obtain ⟨i, hi, h1⟩ := (h.2.2 x).1 hx
      exact ⟨i, by omega, h1⟩
  · rintro ⟨i, hi, hx, hk⟩
    by_cases e : i = k
    · subst e; exact .inl hx.symm
    · exact .inr ((h.2.2 x).2 ⟨i, by omega, hx, hk⟩)
/-- Both lists are one. -/
theorem vals_same {g : Gr} (hg : (checkG g).2 = 0) {s : ByteArray} {L L' : List Va} (hp : L'.Perm (colV g.ns s (namF g.ns g.ns.length 0 s).length)) (hs : ∀ i j, i < j → j < L'.length → ¬ vacmp (L'.getD j Va.none) (L'.getD i Va.none) < 0) (ht : TellsV g.ns s g.ns.length L) : cpt L' = L := by
  have h1 := cpt_strict L' hs L'.length (Nat.le_refl _)
  rw [List.take_length] at h1
  refine Strict.same h1.1 ht.1 fun x => ?_
  rw [h1.2, ht.2.2, hp.mem_iff, mem_get hg]
end Go.Proofs.Ytnmjhbnadfjapaa
