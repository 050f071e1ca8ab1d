/-
  ROWS OF TEXTS, rising, each once. No function is named here.
-/
import Derived.Test.YtfkcopokeofjoaaGreatRec
import Derived.Laws.AppendOwnNone
import Derived.Test.YtfkcopokeofjoaaGreatShelf
import Derived.Maps.Own
import Derived.Maps.OwnOps
import Derived.Maps.RangeWalk
import Derived.Maps.OwnSet
import Derived.Sort.OwnSorted
import Derived.Sort.KeysCollected
import Derived.Sort.Walk0
import Derived.Test.YtfkcopokeofjoaaGreatGFew
import Derived.StringKeys
namespace Go.Proofs.YtfkcopokeofjoaaGreat
open Go.ChangeShapes Go.WideShapes Go.ChangeAt Go.RowKit

theorem lt_b_tri : ∀ x y : List UInt8, Op.bytesLess x y = false → Op.bytesLess y x = false → x = y
  | [], [], _, _ => rfl
  | [], _ :: _, h, _ => by simp [Op.bytesLess] at h
  | _ :: _, [], _, h => by simp [Op.bytesLess] at h
  | a :: x, b :: y, h1, h2 => by
    simp only [Op.bytesLess, Bool.or_eq_false_iff, Bool.and_eq_false_iff, decide_eq_false_iff_not, beq_eq_false_iff_ne] at h1 h2
    obtain ⟨h3, h4⟩ := h1
    obtain ⟨h5, h6⟩ := h2
    have e : a = b := UInt8.le_antisymm (UInt8.not_lt.1 h5) (UInt8.not_lt.1 h3)
    subst e
    rw [lt_b_tri x y (by rcases h4 with h | h; exact absurd rfl h; exact h) (by rcases h6 with h | h; exact absurd rfl h; exact h)]
theorem lt_b_irrefl : ∀ x : List UInt8, Op.bytesLess x x = false
  | [] => rfl
  | a :: x => by simp [Op.bytesLess, lt_b_irrefl x]
theorem lt_b_asymm : ∀ x y : List UInt8, Op.bytesLess x y = true → Op.bytesLess y x = false
  | [], [], h => by simp [Op.bytesLess] at h
  | [], _ :: _, _ => by simp [Op.bytesLess]
  | _ :: _, [], h => by simp [Op.bytesLess] at h
  | a :: x, b :: y, h => by
    simp only [Op.bytesLess, Bool.or_eq_true, Bool.and_eq_true, decide_eq_true_eq, beq_iff_eq] at h
    simp only [Op.bytesLess, Bool.or_eq_false_iff, Bool.and_eq_false_iff, decide_eq_false_iff_not, beq_eq_false_iff_ne]
    rcases h with h | ⟨rfl, h⟩
    · exact ⟨fun h' => absurd (UInt8.lt_trans h h') (UInt8.lt_irrefl a), .inl fun e => by subst e; exact UInt8.lt_irrefl _ h⟩
    · exact ⟨UInt8.lt_irrefl a, .inr (lt_b_asymm x y h)⟩
theorem lt_b_trans : ∀ x y z : List UInt8, Op.bytesLess x y = true → Op.bytesLess y z = true → Op.bytesLess x z = true
  | [], [], _, h, _ => by simp [Op.bytesLess] at h
  | [], _ :: _, [], _, h => by simp [Op.bytesLess] at h
  | [], _ :: _, _ :: _, _, _ => by simp [Op.bytesLess]
  | _ :: _, [], _, h, _ => by simp [Op.bytesLess] at h
  | _ :: _, _ :: _, [], _, h => by simp [Op.bytesLess] at h
  | a :: x, b :: y, c :: z, h1, h2 => by
    simp only [Op.bytesLess, Bool.or_eq_true, Bool.and_eq_true, decide_eq_true_eq, beq_iff_eq] at h1 h2 ⊢
    rcases h1 with h1 | ⟨rfl, h1⟩
    · rcases h2 with h2 | ⟨rfl, h2⟩
      · exact .inl (UInt8.lt_trans h1 h2)
      · exact .inl h1
    · rcases h2 with h2 | ⟨rfl, h2⟩
      · exact .inl h2
      · exact .inr ⟨rfl, lt_b_trans x y z h1 h2⟩
/-- Texts, as they lie. -/
def tx (L : List ByteArray) : List Value := L.map Value.string
theorem tx_len (L : List ByteArray) : (tx L).length = L.length := by simp [tx]
theorem tx_one (L : List ByteArray) : ∀ u ∈ tx L, u.oneCell' = true := fun u hu => by
  simp only [tx, List.mem_map] at hu
  obtain ⟨x, _, rfl⟩ := hu
  rfl
theorem tx_at (L : List ByteArray) (d : ByteArray) (k : Nat) (hk : k < L.length) : (tx L)[k]? = some (.string (L.getD k d)) := by simp [tx, hk]
theorem tx_app (L M : List ByteArray) : tx (L ++ M) = tx L ++ tx M := by simp [tx]
def blT (a b : ByteArray) : Bool := Op.bytesLess a.toList b.toList
theorem txt_inj {a b : ByteArray} (h : a.toList = b.toList) : a = b := by
  rw [ByteArray.toList_eq, ByteArray.toList_eq] at h
  obtain ⟨⟨x⟩⟩ := a
  obtain ⟨⟨y⟩⟩ := b
  simp only at h
  rw [h]
/-- Each before the next. -/
def StrictT (L : List ByteArray) : Prop := L.Pairwise fun a b => blT a b = true
theorem StrictT.nodup {L : List ByteArray} (h : StrictT L) : L.Nodup := h.imp fun {a b} hab e => by
  subst e
  have := lt_b_irrefl a.toList
  unfold blT at hab
  rw [hab] at this
  cases this
theorem StrictT.same {L M : List ByteArray} (hL : StrictT L) (hM : StrictT M) (h : ∀ x, x ∈ L ↔ x ∈ M) : L = M := by
  have hp : L.Perm M := (List.perm_ext_iff_of_nodup hL.nodup hM.nodup).2 h
  refine hp.eq_of_pairwise (le := fun a b => blT a b = true) (fun a b _ _ h1 h2 => ?_) hL hM
  have := lt_b_asymm _ _ h1
  unfold blT at h2
  rw [h2] at this
  cases this
/-- What came of one more. -/
structure PutT (s : ByteArray) (L L' : List ByteArray) : Prop where
  strict : StrictT L → StrictT L'
  mem : ∀ x, x ∈ L' ↔ x = s ∨ x ∈ L
  len : L'.length ≤ L.length + 1
theorem getD_memT {L : List ByteArray} {d : ByteArray} {k : Nat} (h : k < L.length) : L.getD k d ∈ L := by
  rw [show L.getD k d = L[k] by simp [List.getD, h]]
  exact List.getElem_mem _
theorem put_same {s d : ByteArray} {L : List ByteArray} {k : Nat} (hk : k < L.length) (he : (L.getD k d).toList = s.toList) : PutT s L L := by
  have he := txt_inj he
  refine ⟨id, fun x => ⟨.inr, fun h => ?_⟩, by omega⟩
  rcases h with rfl | h
  · rw [← he]; exact getD_memT hk
  · exact h
theorem put_new {s d : ByteArray} {L : List ByteArray} {k : Nat} (hk : k ≤ L.length) (hlow : ∀ i, i < k → Op.bytesLess (L.getD i d).toList s.toList = true) (hup : k < L.length → Op.bytesLess (L.getD k d).toList s.toList = false ∧ ¬ (L.getD k d).toList = s.toList) :
    PutT s L (L.take k ++ [s] ++ L.drop k) := by
  refine ⟨fun h => ?_, fun x => ?_, by simp; omega⟩
  · have hcut : StrictT (L.take k ++ L.drop k) := by rw [List.take_append_drop]; exact h
    obtain ⟨h1, h2, h3⟩ := List.pairwise_append.1 hcut
    have hlo : ∀ x ∈ L.take k, blT x s = true := fun x hx => by
      obtain ⟨i, hi, rfl⟩ := List.getElem_of_mem hx
      have hi' : i < k := by rw [List.length_take] at hi; omega
      have := hlow i hi'
      rw [List.getElem_take]
      rwa [show L.getD i d = L[i]'(by omega) by simp [List.getD, show i < L.length by omega]] at this
    have hhi : ∀ x ∈ L.drop k, blT s x = true := fun x hx => by
      have hkl : k < L.length := by
        rcases Nat.lt_or_ge k L.length with h | h
        · exact h
        · rw [List.drop_of_length_le h] at hx; cases hx
      obtain ⟨hb1, hb2⟩ := hup hkl
      have hsy : blT s (L.getD k d) = true := by
        cases hb : blT s (L.getD k d) with
        | true => rfl
        | false => exact absurd (lt_b_tri _ _ hb1 hb) hb2
      have e0 : L.getD k d = L[k] := by simp [List.getD, hkl]
      have ed : L.drop k = L[k] :: L.drop (k + 1) := List.drop_eq_getElem_cons hkl
      rw [ed] at hx h2
      rcases List.mem_cons.1 hx with rfl | hx
      · rwa [e0] at hsy
      · refine lt_b_trans _ _ _ hsy ?_
        rw [e0]
        exact (List.pairwise_cons.1 h2).1 x hx
    refine List.pairwise_append.2 ⟨List.pairwise_append.2 ⟨h1, List.pairwise_singleton _ _, fun a ha b hb => ?_⟩, h2, fun a ha b hb => ?_⟩
    · rw [List.mem_singleton] at hb; subst hb; exact hlo a ha
    · rcases List.mem_append.1 ha with ha | ha
      · exact h3 a ha b hb
      · rw [List.mem_singleton] at ha; subst ha; exact hhi b hb
  · have hm : x ∈ L ↔ x ∈ L.take k ∨ x ∈ L.drop k := by rw [← List.mem_append, List.take_append_drop]
    rw [hm, List.mem_append, List.mem_append, List.mem_singleton]
    constructor
    · rintro ((h | h) | h)
      · exact .inr (.inl h)
      · exact .inl h
      · exact .inr (.inr h)
    · rintro (h | h | h)
      · exact .inl (.inr h)
      · exact .inl (.inl h)
      · exact .inr h
end Go.Proofs.YtfkcopokeofjoaaGreat
/-
  ONE TEXT MORE IN A RISING LIST (the reference's Put), by contract.
-/
namespace Go.Proofs.YtfkcopokeofjoaaGreat
open Go.ChangeShapes Go.WideShapes Go.ChangeAt Go.RowKit

theorem infoTx : (Tryz.prog.info? 9).map (fun i => (i.zero, i.size, i.bytes)) = some (some (.string ⟨#[]⟩), 1, 16) := by kernel_rfl
end Go.Proofs.YtfkcopokeofjoaaGreat
/-
  THE KEYS OF A MAP, collected and sorted (the program's rising), by contract.
-/
namespace Go.Proofs.YtfkcopokeofjoaaGreat
open Go.ChangeShapes Go.WideShapes Go.ChangeAt Go.RowKit Go.Maps

theorem infoTy : (Tryz.prog.info? 9).map (fun i => (i.zero, i.size, i.bytes)) = some (some (.string ⟨#[]⟩), 1, 16) := by kernel_rfl
theorem lawK : Keyed Tryz.prog 9 := string_keyed Tryz.underlying9
theorem zeroInt (w : World) : (zeroValue 3).run Tryz.prog w = .ok (.int .i64 0) w := by kernel_rfl
/-- Texts as lists of bytes. -/
def txB (L : List ByteArray) : List (List UInt8) := L.map fun s => s.data.toList
theorem sorted_strict {ss : List (List UInt8)} (hn : ss.Nodup) : StrictT ((ss.mergeSort leB).map fun l => (⟨l.toArray⟩ : ByteArray)) := by
  have tr : ∀ a b c : List UInt8, leB a b = true → leB b c = true → leB a c = true := fun a b c h1 h2 => by simp only [leB, decide_eq_true_eq] at *; exact List.le_trans h1 h2
  have to : ∀ a b : List UInt8, (leB a b || leB b a) = true := fun a b => by simp only [leB, Bool.or_eq_true, decide_eq_true_eq]; exact List.le_total a b
  have h1 := List.pairwise_mergeSort tr to ss
  have h2 : (ss.mergeSort leB).Nodup := (List.mergeSort_perm ss leB).nodup_iff.2 hn
  unfold StrictT
  rw [List.pairwise_map]
  refine (h1.and h2).imp fun {a b} ⟨h, hne⟩ => ?_
  unfold blT
  rw [ByteArray.toList_eq, ByteArray.toList_eq]
  simp only [leB, decide_eq_true_eq] at h ⊢
  show Op.bytesLess a b = true
  cases h3 : Op.bytesLess a b with
  | true => rfl
  | false =>
    have h4 : Op.bytesLess b a = false := by rw [bytesLess_eq]; simpa using h
    exact absurd (lt_b_tri a b h3 h4) hne
set_option maxRecDepth 100000 in
set_option maxHeartbeats 3200000 in
theorem rising_c (b n : Nat) (D0 : DataW Unit) (w : World) (hown : w.ownsMap Tryz.prog 9 (plainElem Tryz.prog 3) b n D0) (hmax : Maps.size D0 ≤ 1000000) :
    Calls Tryz.prog 36 #[.map (some b)] w fun e w' => ∃ (g cap : Nat) (L : List ByteArray), e = .returned (.slice (some ⟨g, 0, none⟩) (List.length L) cap) ∧ StrictT L ∧ (∀ x, x ∈ L ↔ Maps.has D0 (.string x.data.toList) = true) ∧
      w'.ownsRow w.heap.size 9 1 (.slice (some ⟨g, 0, none⟩) L.length cap) L.length (tx L) ∧ Below w.heap.size w w' := by
  obtain ⟨i0, hi, hz0, hz1, hz2⟩ := info_parts infoTy
  have hbl := hown.lt
  have hmx : Maps.size D0 ≤ maxLen := by unfold maxLen; omega
  go_enter Tryz.func36, Tryz.ntmps36
  go_wp2_with (first
    | (at_len; refine wpList_len_own _ rfl _ 74 rfl 9 3 Tryz.underlying74 _ b n _ rfl hown ?_)
    | (at_make; refine wpList_make_own _ rfl _ _ 66 rfl w.heap.size 9 i0 (.string ⟨#[]⟩) 1 Tryz.underlying66 hi hz0 hz1 _ _ _ (Maps.size D0) rfl rfl rfl (by rw [hz2]; omega) hmx (Nat.le_refl _) ?_; intro w1 hrow1 hg1)
    | (at_range; refine wpList_range_own _ rfl _ 74 rfl 9 3 lawK Tryz.underlying74 _ b n _ rfl (hown.kept hg1 (by simp)) ?_; intro w0 hrg0 hg0 hs0)
    | go_in)
  go_frame
  go_loopw [3] (fun v wr => ∃ (left : Lit → Bool) (cnt : Nat) (ss : List (List UInt8)), wr.ranges Tryz.prog 9 (plainElem Tryz.prog 3) b w1.heap.size n D0 left cnt ∧ ss.length + cnt ≤ Maps.size D0 ∧
      wr.ownsRow w.heap.size 9 1 v ss.length (ss.map encStr) ∧ v ≠ .slice none 0 0 ∧ Collected D0 left ss ∧ Below w.heap.size w wr)
    (fun _ wr => wr.rangeLeft b w1.heap.size)
  case atStart =>
    exact ⟨_, _, [], hrg0, by simp, hrow1.kept hg0 (Or.inr (by simp [Value.ownBlock])), by simp, Collected.start D0,
      ((Below.refl _ _).grown hg1 (Nat.le_refl _) (fun j hj => by cases hj)).grown hg0 hg1.size (fun j hj => by cases hj)⟩
  case round =>
    obtain ⟨left, cnt, ss, hrg, hcs, hrow, hnn, hC, hnx⟩ := hrel
    go_wp2_with (first
      | (at_next; refine wpList_next_ranges _ rfl _ rfl 9 lawK (plainElem Tryz.prog 3) encStr (Value.int .i64) (fun key kl hk => by obtain ⟨x, hx, _⟩ := Maps.keyOf_str Tryz.underlying9 hk; exact ⟨x, hx⟩) (fun v y hv => by obtain ⟨c, rfl, _⟩ := plainElem_int_inv Tryz.underlying3 hv; exact ⟨c, rfl⟩) b w1.heap.size n _ _ _ rfl hrg ?_ ?_)
      | go_in)
    · intro hc0 hl0
      rcases hrow.2 with ⟨hnil, _⟩ | ⟨g, cap, cur, rfl, hbase, hb, h1, h2, h3, h4⟩
      · exact absurd hnil hnn
      have hH : Go.Sort.Holds encStr wr g 0 ss.toArray := holds_of_block hb (by simpa using h4)
      have hgl : g < wr.heap.size := (Array.getElem?_eq_some_iff.1 hb).1
      have hc := Tryz.slices_Sort_string g 0 cap ss wr hH hgl (by omega)
      have hfin := hidden (fun os nn => ownsRow_sorted (w := wr) (os := os) (n := nn) (ss := ss) (ts := ss.mergeSort fun x y => decide (x ≤ y)) (by simp) hbase hb h1 h2 h3)
      have hst := hidden (sorted_strict hC.1)
      have hmem := hidden hC.2
      have hbel := hidden (fun (os : Array Obj) (nn : Nat) => hnx.grown (grownBy_sorted (w := wr) (g := g) (n := nn) (os := os) ((ss.mergeSort fun x y => decide (x ≤ y)).toArray)) hnx.size (fun j hj => by cases hj; exact hbase))
      clear hH hb h1 h2 h3 h4 hC hrow hrg hnx hrow1 hrg0 hg0 hg1 hs0
      go_wp2_with (go_at_call 52; refine hc.mono ?_; rintro e w' ⟨rfl, nn, os, rfl⟩)
      go_ret
      refine ⟨g, cap, (ss.mergeSort leB).map fun l => (⟨l.toArray⟩ : ByteArray), by simp, hst.out, fun x => ?_, ?_, hbel.out os nn⟩
      · have hx : x ∈ (ss.mergeSort leB).map (fun l => (⟨l.toArray⟩ : ByteArray)) ↔ x.data.toList ∈ ss := by
          rw [List.mem_map]
          constructor
          · rintro ⟨a, ha, rfl⟩
            simpa using ha
          · intro h
            exact ⟨x.data.toList, by simpa using h, by simp⟩
        rw [hx, hmem.out]
        simp [hl0]
      · have := hfin.out os nn
        have e : tx ((ss.mergeSort leB).map fun l => (⟨l.toArray⟩ : ByteArray)) = (ss.mergeSort fun x y => decide (x ≤ y)).map encStr := by simp [tx, List.map_map]
        rw [e, show ((ss.mergeSort leB).map fun l => (⟨l.toArray⟩ : ByteArray)).length = ss.length by simp]
        exact this
    · intro x c kl yd yp w2 cnt2 hkey hlk hv hat hrg2 hlt hg2 hs2 hen
      obtain ⟨x', ex, rfl, _⟩ := Maps.keyOf_str Tryz.underlying9 hkey
      obtain rfl : x = x' := encStr_inj ex
      have hrow2 := hrow.kept hg2 (Or.inr (row_ne_iter hrow hrg).symm)
      clear hs2
      go_wp2_with (first
        | (at_builtin; refine wpList_append_own _ rfl _ _ 66 rfl w.heap.size 9 i0 (.string ⟨#[]⟩) 1 16 Tryz.underlying66 hi hz0 hz1 hz2 rfl (by decide) _ _ _ rfl (hrow2.alloc _) ⟨w2.heap.size, 0, none⟩ 1 1 [encStr x] rfl rfl (cell_one_new _ _ _) (by simp [Value.oneCell', encStr]) (by unfold maxLen at *; omega) (by omega) (by have := hnx.size; have := hg2.size; simp; omega) ?_; intro v' w3 hown' hg3 hnil3; go_frame)
        | go_in)
      have hrg3 := (hrg2.alloc _).kept hg3 (row_ne_low hrow2 hbl) (row_ne_iter hrow2 hrg2)
      go_roundw
      case rel =>
        refine ⟨_, cnt2, ss ++ [x], hrg3, by simp; omega, by simpa using hown', fun hv' => by have := (hnil3.1 hv').2; omega, hC.step hlk hat, ?_⟩
        exact ((hnx.grown hg2 hnx.size (fun j hj => by cases hj; exact hg1.size)).alloc (by have := hnx.size; have := hg2.size; omega) _).grown hg3 (by have := hnx.size; have := hg2.size; simp; omega) (fun j hj => (hrow2.lt j hj).1)
      case measure => rw [hrg3.left_eq, hrg.left_eq]; exact hlt
end Go.Proofs.YtfkcopokeofjoaaGreat
/-
  ALL LABELS AND NAMES OF A GRAPH, each once, rising: the program's, by contract.
-/
namespace Go.Proofs.YtfkcopokeofjoaaGreat
open Go.ChangeShapes Go.WideShapes Go.ChangeAt Go.RowKit Go.Maps

theorem own_le {w : World} {B B' t s n : Nat} {v : Value} {xs : List Value} (h : w.ownsRow B t s v n xs) (hB : B' ≤ B) : w.ownsRow B' t s v n xs := by
  obtain ⟨hl, h⟩ := h
  refine ⟨hl, ?_⟩
  rcases h with h | ⟨g, cap, cur, h1, h2, h3⟩
  · exact .inl h
  · exact .inr ⟨g, cap, cur, h1, Nat.le_trans hB h2, h3⟩
/-- A map whose keys are these texts. -/
structure MapIs (w : World) (b n : Nat) (ls : List ByteArray) (D : DataW Unit) : Prop where
  own : w.ownsMap Tryz.prog 9 (plainElem Tryz.prog 3) b n D
  has : ∀ x : ByteArray, Maps.has D (.string x.data.toList) = true ↔ x ∈ ls
  size : Maps.size D ≤ ls.length
  le : n = ls.length
theorem MapIs.below {w w' : World} {b n : Nat} {ls : List ByteArray} {D : DataW Unit} (h : MapIs w b n ls D) (hg : w.grownBy w' none) : MapIs w' b n ls D := ⟨h.own.kept hg (by simp), h.has, h.size, h.le⟩
theorem MapIs.alloc {w : World} {b n : Nat} {ls : List ByteArray} {D : DataW Unit} (h : MapIs w b n ls D) (o : Obj) : MapIs (w.alloc o) b n ls D := ⟨h.own.alloc o, h.has, h.size, h.le⟩
theorem MapIs.put {w w' : World} {b n : Nat} {ls : List ByteArray} {D : DataW Unit} (h : MapIs w b n ls D) {s : ByteArray} {d : DataW Unit} (hs : s.size ≤ maxLen)
    (hown : w'.ownsMap Tryz.prog 9 (plainElem Tryz.prog 3) b (n + 1) (D.put (.string s.data.toList) d)) : MapIs w' b (n + 1) (ls ++ [s]) (D.put (.string s.data.toList) d) := by
  have ht := h.own.tidy lawK
  refine ⟨hown, fun x => ?_, ?_, by simp [h.le]⟩
  · rw [List.mem_append, List.mem_singleton]
    by_cases he : x = s
    · subst he
      rw [has_put_same ht.isMap (by simp [WideAt.IsKeyLit]) d]
      simp
    · have hne : (Lit.string x.data.toList) ≠ (Lit.string s.data.toList) := fun e => he (by
        have e1 : x.data.toList = s.data.toList := by simpa using e
        obtain ⟨⟨x⟩⟩ := x
        obtain ⟨⟨s⟩⟩ := s
        simp only at e1
        rw [e1])
      rw [has_put_other hne d, h.has]
      simp [he]
  · rw [size_put ht d, List.length_append]
    have := h.size
    split <;> simp <;> omega
theorem mapIs_made (w : World) : MapIs (w.alloc (.map #[] 0)) w.heap.size 0 [] (.map []) := ⟨World.ownsMap_made _ _ _ _, fun x => by simp [Maps.has], by simp [Maps.size], rfl⟩
theorem key_txt {s : ByteArray} (h : s.size ≤ maxLen) : keyOf Tryz.prog 9 (.string s) = some (.string s.data.toList) := Go.WideMaps.keyOf_string_mk Tryz.underlying9 h
set_option maxRecDepth 100000 in
set_option maxHeartbeats 3200000 in
theorem labels_c (es : List Eg) (na : Option Addr) (nn nc : Nat) (a : Option Addr) (c : Nat) (w : World) (he : RowAt w a (edgeR.flat es)) (hl : es.length ≤ 100000) (hs : ∀ x ∈ es, x.l.size ≤ 1000) :
    Calls Tryz.prog 22 #[.agg #[.slice na nn nc, .slice a es.length c]] w fun e w' => ∃ (g cap : Nat) (L : List ByteArray), e = .returned (.slice (some ⟨g, 0, none⟩) (List.length L) cap) ∧ StrictT L ∧ (∀ x, x ∈ L ↔ x ∈ es.map Eg.l) ∧
      w'.ownsRow w.heap.size 9 1 (.slice (some ⟨g, 0, none⟩) L.length cap) L.length (tx L) ∧ Below w.heap.size w w' := by
  have hmm := @run_makeMap Tryz.prog
  obtain ⟨N, hN⟩ : ∃ N, N = es.length := ⟨_, rfl⟩
  rw [← hN] at hl ⊢
  replace hN := hidden hN
  replace he := hidden he
  replace hs := hidden hs
  have hX := heap_alloc_new w (.cells #[.slice na nn nc, .slice a N c] 25)
  obtain ⟨⟨x0, x1⟩, -⟩ := box2f (heap_alloc_old _ (.map #[] 0) (by simp) |>.trans hX)
  have hM0 := hidden (mapIs_made (w.alloc (.cells #[.slice na nn nc, .slice a N c] 25)))
  have hB0 := hidden (((Below.refl w.heap.size w).alloc (Nat.le_refl _) (.cells #[.slice na nn nc, .slice a N c] 25)).alloc (by simp) (.map #[] 0))
  have hz : (w.alloc (.cells #[.slice na nn nc, .slice a N c] 25)).heap.size = w.heap.size + 1 := by simp
  rw [hz] at hM0
  clear hX hz
  go_enter Tryz.func22, Tryz.ntmps22
  go_wp2
  clear x0 x1 hmm
  go_loopw [10] (fun i x => ∃ (k : Nat) (D : DataW Unit), k ≤ N ∧ i = .int .i64 k ∧ Hid (MapIs x (w.heap.size + 1) k ((es.take k).map Eg.l) D) ∧ Hid (Below w.heap.size w x)) (fun i _ => N - (intOf i).toNat)
  case atStart => exact ⟨0, _, Nat.zero_le _, rfl, hM0, hB0⟩
  case round =>
    clear hM0 hB0
    obtain ⟨k, D, hk, rfl, hM, hB⟩ := hrel
    by_cases hlt : k < N
    · have hlt' : (k : Int) < (N : Int) := by omega
      have hlE : k < es.length := by rw [← hN.out]; exact hlt
      obtain ⟨b5, o5, rfl, hb5, e0, e1, e2, e3⟩ := edge_at (he.out.below hB.out) hlE
      have hls : (es.getD k Eg.none).l.size ≤ 1000 := hs.out _ (by
        rw [show es.getD k Eg.none = es[k] by simp [List.getD, hlE]]
        exact List.getElem_mem _)
      have htk : Hid ((es.take (k + 1)).map Eg.l = (es.take k).map Eg.l ++ [(es.getD k Eg.none).l]) := by
        show _ = _
        rw [take_snocR es Eg.none k hlE, List.map_append]; rfl
      generalize es.getD k Eg.none = q at *
      obtain ⟨qf, qt, ql, qw⟩ := q
      simp only at e0 e1 e2 e3 hls htk
      have hlm : ql.size ≤ maxLen := by unfold maxLen; omega
      have hkey := hidden (key_txt hlm)
      have hMA := hidden (hM.out.alloc (.cells #[.int .i64 qf, .int .i64 qt, .string ql, .int .i64 qw] 63))
      have hBA := hidden (hB.out.alloc hB.out.size (.cells #[.int .i64 qf, .int .i64 qt, .string ql, .int .i64 qw] 63))
      obtain ⟨⟨p0, p1, p2, p3⟩, -⟩ := box4f (heap_alloc_new wr (.cells #[.int .i64 qf, .int .i64 qt, .string ql, .int .i64 qw] 63))
      have hkm : k < maxLen := by unfold maxLen; omega
      clear hM hB hls
      go_wp2_with (first
        | (at_lookup; refine wpList_lookup_own_int _ rfl _ _ 74 rfl 9 3 .i64 lawK Tryz.underlying74 Tryz.underlying3 (zeroInt _) (w.heap.size + 1) k _ rfl hMA.out.own _ _ rfl hkey.out ?_; intro cc hat hwc)
        | (at_mapUpdate; refine wpList_mapUpdate_own _ rfl _ _ _ 74 rfl 9 3 lawK Tryz.underlying74 _ (w.heap.size + 1) k _ rfl hMA.out.own hkm _ _ _ rfl rfl hkey.out _ [] (plainElem_int Tryz.underlying3 (wrap64_wf _)) ?_; intro w1 hown1 hgrow1)
        | go_in)
      have hM1 := hMA.out.put hlm hown1
      rw [← htk.out] at hM1
      have hB1 := hidden (hBA.out.grown hgrow1 hBA.out.size (fun j hj => by cases hj; omega))
      go_roundw
      case rel => exact ⟨k + 1, _, by omega, by go_num, hM1, hB1⟩
      case measure => simp [intOf]; omega
    · have hlt' : ¬ (k : Int) < (N : Int) := by omega
      obtain rfl : k = N := by omega
      have ht : es.take k = es := List.take_of_length_le (by rw [← hN.out]; exact Nat.le_refl _)
      have hM2 := hM.out
      rw [ht] at hM2
      have hr := rising_c (w.heap.size + 1) k D wr hM2.own (by have := hM2.size; rw [List.length_map, ← hN.out] at this; omega)
      have hhas := hidden hM2.has
      have hws := hB.out.size
      clear hM hM2 ht
      go_wp2_with fail
      refine hr.mono ?_
      rintro e w5 ⟨g, cap, L, rfl, h1, h2, h3, h4⟩
      have h5 := hidden (hB.out.trans (h4.mono hws))
      have h6 := hidden (own_le h3 hws)
      clear h3 h4 hr
      go_wp2
      go_ret
      exact ⟨g, cap, L, rfl, h1, fun x => (h2 x).trans (hhas.out x), h6.out, h5.out⟩
/-- All names of properties, in their order. -/
def namesL (ns : List Nd) : List ByteArray := ns.flatMap fun x => x.ps.map Pp.s
theorem namesL_app (l m : List Nd) : namesL (l ++ m) = namesL l ++ namesL m := by simp [namesL]
theorem namesL_one (x : Nd) : namesL [x] = x.ps.map Pp.s := by simp [namesL]
end Go.Proofs.YtfkcopokeofjoaaGreat
/-
  ALL LABELS AND NAMES OF A GRAPH, each once, rising: the reference's, by contract.
-/
namespace Go.Proofs.YtfkcopokeofjoaaGreat
open Go.ChangeShapes Go.WideShapes Go.ChangeAt Go.RowKit

/-- The list so far: whose members these are. -/
structure TL (w x : World) (g og cap : Nat) (L own : List ByteArray) : Prop where
  sl : Sl x (.slice (some ⟨g, og, none⟩) L.length cap) (tx L)
  strict : StrictT L
  mem : ∀ y, y ∈ L ↔ y ∈ own
  len : L.length ≤ own.length
  below : Below w.heap.size w x
theorem TL.put {w x z : World} {g og cap g' og' cap' : Nat} {L L' own : List ByteArray} {s : ByteArray} (h : TL w x g og cap L own) (hs : Sl z (.slice (some ⟨g', og', none⟩) L'.length cap') (tx L')) (hp : PutT s L L') (hB : Below x.heap.size x z) : TL w z g' og' cap' L' (own ++ [s]) := by
  refine ⟨hs, hp.strict h.strict, fun y => ?_, ?_, h.below.trans (hB.mono h.below.size)⟩
  · rw [hp.mem, h.mem, List.mem_append, List.mem_singleton]
    exact Or.comm
  · have h1 := hp.len
    have h2 := h.len
    simp only [List.length_append, List.length_cons, List.length_nil]
    omega
theorem tl_made (w : World) (o : Obj) : TL w ((w.alloc o).alloc (.cells #[] 9)) (w.heap.size + 1) 0 0 [] [] :=
  ⟨⟨_, 0, rfl, Nat.le_refl _, fun e => (by cases e), fun _ e => (by cases e; rfl), .inl rfl⟩, .nil, fun _ => Iff.rfl, Nat.le_refl _, ((Below.refl _ _).alloc (Nat.le_refl _) _).alloc (by simp) _⟩
end Go.Proofs.YtfkcopokeofjoaaGreat
