/-
  slices.SortFunc OF STEPS, by contract.
-/
import Derived.Test.YtjgddkbpfpgaoafDoorRSym
import Derived.Test.YtjgddkbpfpgaoafDoorShelf
import Derived.Shelf.GgSortFunc.InsertionK
import Derived.Shelf.SlSortCmp.Insertion
import Derived.Shelf.SlSortCmp.WholeK
namespace Go.Proofs.YtjgddkbpfpgaoafDoor
open Go.ChangeShapes Go.WideShapes Go.ChangeAt Go.RowKit

/-! ## The order is total -/
theorem cmpS_anti (a b : ByteArray) : cmpS b a = -cmpS a b := by
  unfold cmpS ltS
  cases h1 : Op.bytesLess a.toList b.toList with
  | true => rw [less_asymm _ _ h1]; simp
  | false => cases h2 : Op.bytesLess b.toList a.toList <;> simp
theorem cmpS_self (a : ByteArray) : cmpS a a = 0 := by simp [cmpS, ltS, less_irrefl]
theorem toList_inj {a b : ByteArray} (h : a.toList = b.toList) : a = b := by
  rw [Go.ByteArray.toList_eq, Go.ByteArray.toList_eq] at h
  cases a; cases b; simp_all
theorem cmpS_zero {a b : ByteArray} (h : cmpS a b = 0) : a = b := by
  unfold cmpS ltS at h
  cases h1 : Op.bytesLess a.toList b.toList with
  | true => rw [h1] at h; simp at h
  | false =>
    cases h2 : Op.bytesLess b.toList a.toList with
    | true => rw [h1, h2] at h; simp at h
    | false => exact toList_inj (less_tri _ _ h1 h2)
theorem less_trans : ∀ x y z : List UInt8, Op.bytesLess x y = true → Op.bytesLess y z = true → Op.bytesLess x z = true
  | [], [], _, h, _ => by simp [Op.bytesLess] at h
  | [], _ :: _, [], _, h => by simp [Op.bytesLess] at h
  | [], _ :: _, _ :: _, _, _ => by simp [Op.bytesLess]
  | _ :: _, [], _, h, _ => by simp [Op.bytesLess] at h
  | _ :: _, _ :: _, [], _, h => by simp [Op.bytesLess] at h
  | a :: x, b :: y, c :: z, h1, h2 => by
    simp only [Op.bytesLess, Bool.or_eq_true, Bool.and_eq_true, decide_eq_true_eq, beq_iff_eq] at h1 h2 ⊢
    rcases h1 with h1 | ⟨rfl, h1⟩
    · rcases h2 with h2 | ⟨rfl, h2⟩
      · exact .inl (UInt8.lt_trans h1 h2)
      · exact .inl h1
    · rcases h2 with h2 | ⟨rfl, h2⟩
      · exact .inl h2
      · exact .inr ⟨rfl, less_trans x y z h1 h2⟩
theorem cmpS_neg {a b : ByteArray} : cmpS a b < 0 ↔ ltS a b = true := by
  unfold cmpS
  by_cases h1 : ltS a b = true
  · simp [h1]
  · by_cases h2 : ltS b a = true <;> simp [h1, h2]
/-- One stands before the other. -/
theorem sycmp_neg {x y : Sy} : sycmp x y < 0 ↔ ltS x.1 y.1 = true ∨ (x.1 = y.1 ∧ x.2 = false ∧ y.2 = true) := by
  obtain ⟨a, p⟩ := x
  obtain ⟨b, q⟩ := y
  unfold sycmp or2
  by_cases h : cmpS a b = 0
  · have e := cmpS_zero h
    subst e
    simp only [cmpS_self, if_true, ltS, less_irrefl]
    cases p <;> cases q <;> simp [bcmp]
  · rw [if_neg h]
    refine ⟨fun h1 => .inl (cmpS_neg.1 h1), fun h1 => ?_⟩
    rcases h1 with h1 | ⟨rfl, _⟩
    · exact cmpS_neg.2 h1
    · exact absurd (cmpS_self _) h
theorem sycmp_anti (x y : Sy) : sycmp y x = -sycmp x y := by
  obtain ⟨a, p⟩ := x
  obtain ⟨b, q⟩ := y
  unfold sycmp or2
  rw [cmpS_anti a b]
  by_cases h : cmpS a b = 0
  · rw [if_pos (by omega), if_pos h]
    cases p <;> cases q <;> simp [bcmp]
  · rw [if_neg (by omega), if_neg h]
theorem sycmp_self (x : Sy) : sycmp x x = 0 := by simp [sycmp, cmpS_self, or2, bcmp]
theorem sycmp_zero {x y : Sy} (h : sycmp x y = 0) : x = y := by
  obtain ⟨a, p⟩ := x
  obtain ⟨b, q⟩ := y
  unfold sycmp or2 at h
  by_cases h1 : cmpS a b = 0
  · rw [if_pos h1] at h
    have e : a = b := cmpS_zero h1
    subst e
    have : p = q := by revert h; cases p <;> cases q <;> simp [bcmp]
    rw [this]
  · rw [if_neg h1] at h
    exact absurd h h1
theorem sycmp_trans {x y z : Sy} (h1 : sycmp x y < 0) (h2 : sycmp y z < 0) : sycmp x z < 0 := by
  rw [sycmp_neg] at *
  rcases h1 with h1 | ⟨e1, p1, q1⟩
  · rcases h2 with h2 | ⟨e2, _, _⟩
    · exact .inl (less_trans _ _ _ h1 h2)
    · rw [← e2]; exact .inl h1
  · rcases h2 with h2 | ⟨e2, p2, q2⟩
    · rw [e1]; exact .inl h2
    · rw [q1] at p2; cases p2
theorem swo_sy : Go.Sort.SWO (Go.Proofs.ltOf fun x y : Sy => sycmp x y) := by
  refine ⟨fun x => ?_, fun x y z h1 h2 => ?_, fun x y z h1 h2 => ?_⟩
  · simp [Go.Proofs.ltOf, sycmp_self]
  · simp only [Go.Proofs.ltOf, decide_eq_true_eq] at *
    exact sycmp_trans h1 h2
  · simp only [Go.Proofs.ltOf, decide_eq_false_iff_not] at *
    intro h3
    by_cases e : sycmp x y = 0
    · have := sycmp_zero e
      subst this
      exact h2 h3
    · have a1 := sycmp_anti x y
      have h4 : sycmp y x < 0 := by omega
      exact h2 (sycmp_trans h4 h3)

/-! ## A row of steps -/
def syR : Rec Sy := ⟨fun p => [.string p.1, .bool p.2], 2, by decide, fun _ => rfl, fun p u hu => by simp at hu; rcases hu with rfl | rfl <;> rfl, (⟨#[]⟩, false)⟩
instance : Inhabited Sy := ⟨(⟨#[]⟩, false)⟩
theorem own_cell {x : World} {B e s g n cap : Nat} {xs : List Value} (h : x.ownsRow B e s (.slice (some ⟨g, 0, none⟩) n cap) n xs) {j : Nat} {u : Value} (hj : xs[j]? = some u) : x.cell? ⟨g, j, none⟩ = some u := by
  obtain ⟨hl, h⟩ := h
  rcases h with ⟨e, _⟩ | ⟨g', cap', cur, e, _, hc, _, _, _, htk⟩
  · cases e
  · simp only [Value.slice.injEq, Option.some.injEq, Addr.mk.injEq, and_true] at e
    obtain ⟨rfl, _⟩ := e
    have hlt := (List.getElem?_eq_some_iff.1 hj).1
    rw [hl] at hlt
    rw [← htk, List.getElem?_take_of_lt hlt, Array.getElem?_toList] at hj
    simp only [World.cell?, hc]
    exact hj
theorem flat_sy (d : Array Sy) : Go.Sort.flatK (fun x => syR.enc x) 2 d = (syR.flat d.toList).toArray := by
  have hs : (Go.Sort.flatK (fun x => syR.enc x) 2 d).size = d.size * 2 := by simp
  have hfl : (syR.flat d.toList).length = d.size * 2 := by rw [Rec.flat_len]; simp [syR]
  apply Array.ext
  · rw [hs]; simp [hfl]
  · intro t h1 h2
    rw [hs] at h1
    have hd : t / 2 < d.size := by omega
    have hg := Go.Sort.get_flatK (fun x => syR.enc x) 2 d t h1
    rw [getElem!_pos _ t (by rw [hs]; exact h1)] at hg
    rw [hg]
    have he := Rec.flat_at (R := syR) d.toList (t / 2) (t % 2) (by simpa using hd) (by show _ < 2; omega)
    rw [show t / 2 * syR.n + t % 2 = t by show t / 2 * 2 + _ = _; omega] at he
    have hp : d.toList.getD (t / 2) syR.dflt = d[t / 2]! := by
      rw [getElem!_pos d (t / 2) hd]; simp [List.getD, hd]
    rw [hp] at he
    have hl : t % 2 < (syR.enc d[t / 2]!).length := by rw [syR.len]; show _ < 2; omega
    rw [getElem!_pos (syR.enc d[t / 2]!) (t % 2) hl]
    rw [List.getElem?_eq_getElem hl] at he
    have h3 : t < (syR.flat d.toList).length := by omega
    rw [List.getElem?_eq_getElem h3] at he
    have he := Option.some.inj he
    simp only [List.getElem_toArray]
    exact he.symm
theorem sw_block (w : World) (g m : Nat) (dk : Array Sy) (os : Array Obj) {cur : Array Value} {e : TypeId} (h : w.heap[g]? = some (.cells cur e (0, 0))) :
    (Go.Proofs.sortWorldK (fun x => syR.enc x) 2 w g 0 m dk os).heap[g]? = some (.cells (Go.Sort.putCells id 0 (Go.Sort.flatK (fun x => syR.enc x) 2 dk) cur) e (0, 0)) := by
  have hg : g < w.heap.size := (Array.getElem?_eq_some_iff.1 h).1
  simp only [Go.Proofs.sortWorldK, Go.Sort.grow, Go.Sort.putRowK, Go.Sort.putRow, Go.Sort.mapBlock, Go.Sort.ahead]
  rw [Array.getElem?_append_left (by simpa using hg), Array.getElem?_modify, if_pos rfl, h]
  rfl
theorem sw_other (w : World) (g m : Nat) (dk : Array Sy) (os : Array Obj) {j : Nat} (hj : j < w.heap.size) (hne : j ≠ g) :
    (Go.Proofs.sortWorldK (fun x => syR.enc x) 2 w g 0 m dk os).heap[j]? = w.heap[j]? := by
  simp only [Go.Proofs.sortWorldK, Go.Sort.grow, Go.Sort.putRowK, Go.Sort.putRow, Go.Sort.mapBlock, Go.Sort.ahead]
  rw [Array.getElem?_append_left (by simpa using hj), Array.getElem?_modify, if_neg (Ne.symm hne)]
theorem sw_below (w : World) (g m : Nat) (dk : Array Sy) (os : Array Obj) {B : Nat} (hB : B ≤ g) (hw : B ≤ w.heap.size) :
    Below B w (Go.Proofs.sortWorldK (fun x => syR.enc x) 2 w g 0 m dk os) := by
  refine ⟨rfl, rfl, rfl, ?_, fun j hj => sw_other w g m dk os (by omega) (by omega)⟩
  simp [Go.Proofs.sortWorldK, Go.Sort.grow, Go.Sort.putRowK, Go.Sort.putRow, Go.Sort.mapBlock, Go.Sort.ahead]
theorem put_take (F cur : Array Value) (n : Nat) (hF : F.size = n) (hn : n ≤ cur.size) : (Go.Sort.putCells id 0 F cur).toList.take n = F.toList := by
  apply List.ext_getElem?
  intro t
  by_cases ht : t < n
  · have hc : t < cur.size := by omega
    have hf : t < F.size := by omega
    rw [List.getElem?_take_of_lt ht, Array.getElem?_toList, Array.getElem?_toList]
    simp [Go.Sort.putCells, hc, hf]
  · rw [List.getElem?_eq_none (by simp; omega), List.getElem?_eq_none (by simp; omega)]
theorem sw_row (w : World) (B g n cap m : Nat) (L : List Sy) (dk : Array Sy) (os : Array Obj) (hd : dk.size = n) (hr : w.ownsRow B 23 2 (.slice (some ⟨g, 0, none⟩) n cap) n (syR.flat L)) :
    (Go.Proofs.sortWorldK (fun x => syR.enc x) 2 w g 0 m dk os).ownsRow B 23 2 (.slice (some ⟨g, 0, none⟩) n cap) n (syR.flat dk.toList) := by
  obtain ⟨hl, h⟩ := hr
  refine ⟨by rw [Rec.flat_len]; simp [hd, syR], ?_⟩
  rcases h with ⟨h, _⟩ | ⟨g', cap', cur, he, h2, h3, h4, h5, h6, h7⟩
  · cases h
  · simp only [Value.slice.injEq, Option.some.injEq, Addr.mk.injEq, and_true, true_and] at he
    obtain ⟨rfl, rfl⟩ := he
    refine .inr ⟨g, cap, _, rfl, h2, sw_block w g m dk os h3, h4, h5, by simpa [Go.Sort.putCells] using h6, ?_⟩
    rw [put_take _ _ _ (by simp [hd]) (by rw [h6]; exact Nat.mul_le_mul_right 2 h4), flat_sy]
theorem holdsK_row (w : World) (B g cap : Nat) (d : Array Sy) (hr : w.ownsRow B 23 2 (.slice (some ⟨g, 0, none⟩) d.size cap) d.size (syR.flat d.toList)) :
    Go.Sort.HoldsK (fun x => syR.enc x) 2 w g 0 d := by
  intro j hj
  rw [flat_sy] at hj ⊢
  have hj' : j < (syR.flat d.toList).length := by simpa using hj
  have hget : (syR.flat d.toList)[j]? = some (syR.flat d.toList).toArray[j]! := by
    rw [List.getElem?_eq_getElem hj', getElem!_pos (syR.flat d.toList).toArray j hj]; simp
  refine ⟨by rw [Nat.zero_add]; exact own_cell hr hget, by rw [Nat.zero_add]; exact hr.frozenAt j⟩

/-! ## The sort -/
theorem enters_order : ∀ args w, (callFunc 12 args).run Tryd.prog w = .ok (.enter 12 args) w := enters_of Tryd.func12 (by kernel_rfl) rfl
theorem agg_sy : ∀ w, (isAgg 23).run Tryd.prog w = .ok true w := fun w => by kernel_rfl
theorem size_sy : ∀ w, (Go.sizeOf 23).run Tryd.prog w = .ok 2 w := fun w => by kernel_rfl
theorem cmpLays_sy (w : World) (g n : Nat) : Go.Proofs.CmpLays Tryd.prog 12 #[] (fun x : Sy => syR.enc x) 2 (fun x y => sycmp x y) g 0 n w := fun _ _ _ _ x y => sycmp_c x y _
/-- Steps in a row of their own, sorted. -/
theorem sort_c (w : World) (B g n cap : Nat) (L : List Sy) (h : w.ownsRow B 23 2 (.slice (some ⟨g, 0, none⟩) n cap) n (syR.flat L)) (hL : L.length = n) (hn : n ≤ 17592186044416) (hB : B ≤ g) :
    Calls Tryd.prog 11 #[.slice (some ⟨g, 0, none⟩) n cap, .func (.func 12) #[] #[]] w fun e w' =>
      e = .returned (.tuple #[]) ∧ ∃ L' : List Sy, w'.ownsRow B 23 2 (.slice (some ⟨g, 0, none⟩) n cap) n (syR.flat L') ∧ L'.Perm L ∧ (∀ i j, i < j → j < n → ¬ sycmp (L'.getD j (⟨#[]⟩, false)) (L'.getD i (⟨#[]⟩, false)) < 0) ∧ Below B w w' ∧ (∀ j, j < w.heap.size → j ≠ g → w'.heap[j]? = w.heap[j]?) := by
  have hDn : L.toArray.size = n := by simpa using hL
  have hrow' : w.ownsRow B 23 2 (.slice (some ⟨g, 0, none⟩) L.toArray.size cap) L.toArray.size (syR.flat L.toArray.toList) := by rw [hDn]; exact h
  have hg : g < w.heap.size := by
    rcases h.2 with ⟨e, _⟩ | ⟨g', cap', cur, e, _, hc, _⟩
    · cases e
    · simp only [Value.slice.injEq, Option.some.injEq, Addr.mk.injEq, and_true, true_and] at e
      obtain ⟨rfl, _⟩ := e
      exact (Array.getElem?_eq_some_iff.1 hc).1
  have hcon := Go.Proofs.AnyQ.slices_SortFunc Tryd.sortItem 2 agg_sy size_sy (fun x : Sy => syR.enc x) (fun _ => rfl) (fun x v hv => syR.one x v hv) (fun x y => sycmp x y) swo_sy 12 #[] g 0 cap L.toArray w enters_order (cmpLays_sy w g _) (holdsK_row w B g cap L.toArray hrow') hg (by rw [hDn]; omega)
  change Calls Tryd.prog 11 _ _ _ at hcon
  rw [hDn] at hcon
  refine hcon.mono ?_
  rintro e w' ⟨rfl, d', m, os, hp, hs, rfl⟩
  obtain ⟨hps, -, hpp⟩ := hp
  rw [hDn] at hps
  have hpp' : d'.toList.Perm L := by
    have e1 : d'.extract 0 n = d' := by rw [← hps]; simp
    have e2 : L.toArray.extract 0 n = L.toArray := by rw [← hDn]; simp
    rw [e1, e2] at hpp
    simpa using hpp
  refine ⟨rfl, d'.toList, sw_row w B g n cap m _ d' os hps h, hpp', ?_, sw_below w g m d' os hB (by omega), fun j hj hne => sw_other w g m d' os hj hne⟩
  intro i j hij hj
  have h1 := hs i j (Nat.zero_le _) hij hj
  have hj' : j < d'.size := by omega
  have hi' : i < d'.size := by omega
  rw [getElem!_pos d' j hj', getElem!_pos d' i hi'] at h1
  simpa [Go.Proofs.ltOf, List.getD, hj', hi'] using h1
end Go.Proofs.YtjgddkbpfpgaoafDoor
