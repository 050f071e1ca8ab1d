/-
  THE KEYS OF A MAP, collected and sorted (the program's rising), by contract.
-/
import Derived.Test.YtjgddkbpfpgaoacGreatDoorPutT
import Derived.Test.YtjgddkbpfpgaoacGreatDoorGraphs
import Derived.Test.YtjgddkbpfpgaoacGreatDoorShelf
import Derived.Maps.Own
import Derived.Maps.OwnOps
import Derived.Maps.RangeWalk
import Derived.Maps.OwnSet
import Derived.Sort.OwnSorted
import Derived.Sort.KeysCollected
import Derived.Sort.Walk0
import Derived.Test.YtjgddkbpfpgaoacGreatDoorGFew
import Derived.StringKeys
namespace Go.Proofs.YtjgddkbpfpgaoacGreatDoor
open Go.ChangeShapes Go.WideShapes Go.ChangeAt Go.RowKit Go.Maps

theorem infoTy : (Tryz.prog.info? 9).map (fun i => (i.zero, i.size, i.bytes)) = some (some (.string ⟨#[]⟩), 1, 16) := by kernel_rfl
theorem lawK : Keyed Tryz.prog 9 := string_keyed Tryz.underlying9
theorem zeroInt (w : World) : (zeroValue 3).run Tryz.prog w = .ok (.int .i64 0) w := by kernel_rfl
/-- Texts as lists of bytes. -/
def txB (L : List ByteArray) : List (List UInt8) := L.map fun s => s.data.toList
theorem sorted_strict {ss : List (List UInt8)} (hn : ss.Nodup) : StrictT ((ss.mergeSort leB).map fun l => (⟨l.toArray⟩ : ByteArray)) := by
  have tr : ∀ a b c : List UInt8, leB a b = true → leB b c = true → leB a c = true := fun a b c h1 h2 => by simp only [leB, decide_eq_true_eq] at *; exact List.le_trans h1 h2
  have to : ∀ a b : List UInt8, (leB a b || leB b a) = true := fun a b => by simp only [leB, Bool.or_eq_true, decide_eq_true_eq]; exact List.le_total a b
  have h1 := List.pairwise_mergeSort tr to ss
  have h2 : (ss.mergeSort leB).Nodup := (List.mergeSort_perm ss leB).nodup_iff.2 hn
  unfold StrictT
  rw [List.pairwise_map]
  refine (h1.and h2).imp fun {a b} ⟨h, hne⟩ => ?_
  unfold blT
  rw [ByteArray.toList_eq, ByteArray.toList_eq]
  simp only [leB, decide_eq_true_eq] at h ⊢
  show Op.bytesLess a b = true
  cases h3 : Op.bytesLess a b with
  | true => rfl
  | false =>
    have h4 : Op.bytesLess b a = false := by rw [bytesLess_eq]; simpa using h
    exact absurd (lt_b_tri a b h3 h4) hne
set_option maxRecDepth 100000 in
set_option maxHeartbeats 3200000 in
theorem rising_c (b n : Nat) (D0 : DataW Unit) (w : World) (hown : w.ownsMap Tryz.prog 9 (plainElem Tryz.prog 3) b n D0) (hmax : Maps.size D0 ≤ 1000000) :
    Calls Tryz.prog 27 #[.map (some b)] w fun e w' => ∃ (g cap : Nat) (L : List ByteArray), e = .returned (.slice (some ⟨g, 0, none⟩) (List.length L) cap) ∧ StrictT L ∧ (∀ x, x ∈ L ↔ Maps.has D0 (.string x.data.toList) = true) ∧
      w'.ownsRow w.heap.size 9 1 (.slice (some ⟨g, 0, none⟩) L.length cap) L.length (tx L) ∧ Below w.heap.size w w' := by
  obtain ⟨i0, hi, hz0, hz1, hz2⟩ := info_parts infoTy
  have hbl := hown.lt
  have hmx : Maps.size D0 ≤ maxLen := by unfold maxLen; omega
  go_enter Tryz.func27, Tryz.ntmps27
  go_wp2_with (first
    | (at_len; refine wpList_len_own _ rfl _ 52 rfl 9 3 Tryz.underlying52 _ b n _ rfl hown ?_)
    | (at_make; refine wpList_make_own _ rfl _ _ 38 rfl w.heap.size 9 i0 (.string ⟨#[]⟩) 1 Tryz.underlying38 hi hz0 hz1 _ _ _ (Maps.size D0) rfl rfl rfl (by rw [hz2]; omega) hmx (Nat.le_refl _) ?_; intro w1 hrow1 hg1)
    | (at_range; refine wpList_range_own _ rfl _ 52 rfl 9 3 lawK Tryz.underlying52 _ b n _ rfl (hown.kept hg1 (by simp)) ?_; intro w0 hrg0 hg0 hs0)
    | go_in)
  go_frame
  go_loopw [3] (fun v wr => ∃ (left : Lit → Bool) (cnt : Nat) (ss : List (List UInt8)), wr.ranges Tryz.prog 9 (plainElem Tryz.prog 3) b w1.heap.size n D0 left cnt ∧ ss.length + cnt ≤ Maps.size D0 ∧
      wr.ownsRow w.heap.size 9 1 v ss.length (ss.map encStr) ∧ v ≠ .slice none 0 0 ∧ Collected D0 left ss ∧ Below w.heap.size w wr)
    (fun _ wr => wr.rangeLeft b w1.heap.size)
  case atStart =>
    exact ⟨_, _, [], hrg0, by simp, hrow1.kept hg0 (Or.inr (by simp [Value.ownBlock])), by simp, Collected.start D0,
      ((Below.refl _ _).grown hg1 (Nat.le_refl _) (fun j hj => by cases hj)).grown hg0 hg1.size (fun j hj => by cases hj)⟩
  case round =>
    obtain ⟨left, cnt, ss, hrg, hcs, hrow, hnn, hC, hnx⟩ := hrel
    go_wp2_with (first
      | (at_next; refine wpList_next_ranges _ rfl _ rfl 9 lawK (plainElem Tryz.prog 3) encStr (Value.int .i64) (fun key kl hk => by obtain ⟨x, hx, _⟩ := Maps.keyOf_str Tryz.underlying9 hk; exact ⟨x, hx⟩) (fun v y hv => by obtain ⟨c, rfl, _⟩ := plainElem_int_inv Tryz.underlying3 hv; exact ⟨c, rfl⟩) b w1.heap.size n _ _ _ rfl hrg ?_ ?_)
      | go_in)
    · intro hc0 hl0
      rcases hrow.2 with ⟨hnil, _⟩ | ⟨g, cap, cur, rfl, hbase, hb, h1, h2, h3, h4⟩
      · exact absurd hnil hnn
      have hH : Go.Sort.Holds encStr wr g 0 ss.toArray := holds_of_block hb (by simpa using h4)
      have hgl : g < wr.heap.size := (Array.getElem?_eq_some_iff.1 hb).1
      have hc := Tryz.slices_Sort_string g 0 cap ss wr hH hgl (by omega)
      have hfin := hidden (fun os nn => ownsRow_sorted (w := wr) (os := os) (n := nn) (ss := ss) (ts := ss.mergeSort fun x y => decide (x ≤ y)) (by simp) hbase hb h1 h2 h3)
      have hst := hidden (sorted_strict hC.1)
      have hmem := hidden hC.2
      have hbel := hidden (fun (os : Array Obj) (nn : Nat) => hnx.grown (grownBy_sorted (w := wr) (g := g) (n := nn) (os := os) ((ss.mergeSort fun x y => decide (x ≤ y)).toArray)) hnx.size (fun j hj => by cases hj; exact hbase))
      clear hH hb h1 h2 h3 h4 hC hrow hrg hnx hrow1 hrg0 hg0 hg1 hs0
      go_wp2_with (go_at_call 30; refine hc.mono ?_; rintro e w' ⟨rfl, nn, os, rfl⟩)
      go_ret
      refine ⟨g, cap, (ss.mergeSort leB).map fun l => (⟨l.toArray⟩ : ByteArray), by simp, hst.out, fun x => ?_, ?_, hbel.out os nn⟩
      · have hx : x ∈ (ss.mergeSort leB).map (fun l => (⟨l.toArray⟩ : ByteArray)) ↔ x.data.toList ∈ ss := by
          rw [List.mem_map]
          constructor
          · rintro ⟨a, ha, rfl⟩
            simpa using ha
          · intro h
            exact ⟨x.data.toList, by simpa using h, by simp⟩
        rw [hx, hmem.out]
        simp [hl0]
      · have := hfin.out os nn
        have e : tx ((ss.mergeSort leB).map fun l => (⟨l.toArray⟩ : ByteArray)) = (ss.mergeSort fun x y => decide (x ≤ y)).map encStr := by simp [tx, List.map_map]
        rw [e, show ((ss.mergeSort leB).map fun l => (⟨l.toArray⟩ : ByteArray)).length = ss.length by simp]
        exact this
    · intro x c kl yd yp w2 cnt2 hkey hlk hv hat hrg2 hlt hg2 hs2 hen
      obtain ⟨x', ex, rfl, _⟩ := Maps.keyOf_str Tryz.underlying9 hkey
      obtain rfl : x = x' := encStr_inj ex
      have hrow2 := hrow.kept hg2 (Or.inr (row_ne_iter hrow hrg).symm)
      clear hs2
      go_wp2_with (first
        | (at_builtin; refine wpList_append_own _ rfl _ _ 38 rfl w.heap.size 9 i0 (.string ⟨#[]⟩) 1 16 Tryz.underlying38 hi hz0 hz1 hz2 rfl (by decide) _ _ _ rfl (hrow2.alloc _) ⟨w2.heap.size, 0, none⟩ 1 1 [encStr x] rfl rfl (cell_one_new _ _ _) (by simp [Value.oneCell', encStr]) (by unfold maxLen at *; omega) (by omega) (by have := hnx.size; have := hg2.size; simp; omega) ?_; intro v' w3 hown' hg3 hnil3; go_frame)
        | go_in)
      have hrg3 := (hrg2.alloc _).kept hg3 (row_ne_low hrow2 hbl) (row_ne_iter hrow2 hrg2)
      go_roundw
      case rel =>
        refine ⟨_, cnt2, ss ++ [x], hrg3, by simp; omega, by simpa using hown', fun hv' => by have := (hnil3.1 hv').2; omega, hC.step hlk hat, ?_⟩
        exact ((hnx.grown hg2 hnx.size (fun j hj => by cases hj; exact hg1.size)).alloc (by have := hnx.size; have := hg2.size; omega) _).grown hg3 (by have := hnx.size; have := hg2.size; simp; omega) (fun j hj => (hrow2.lt j hj).1)
      case measure => rw [hrg3.left_eq, hrg.left_eq]; exact hlt
end Go.Proofs.YtjgddkbpfpgaoacGreatDoor
/-
  ALL LABELS AND NAMES OF A GRAPH, each once, rising: the program's, by contract.
-/
namespace Go.Proofs.YtjgddkbpfpgaoacGreatDoor
open Go.ChangeShapes Go.WideShapes Go.ChangeAt Go.RowKit Go.Maps

theorem own_le {w : World} {B B' t s n : Nat} {v : Value} {xs : List Value} (h : w.ownsRow B t s v n xs) (hB : B' ≤ B) : w.ownsRow B' t s v n xs := by
  obtain ⟨hl, h⟩ := h
  refine ⟨hl, ?_⟩
  rcases h with h | ⟨g, cap, cur, h1, h2, h3⟩
  · exact .inl h
  · exact .inr ⟨g, cap, cur, h1, Nat.le_trans hB h2, h3⟩
/-- A map whose keys are these texts. -/
structure MapIs (w : World) (b n : Nat) (ls : List ByteArray) (D : DataW Unit) : Prop where
  own : w.ownsMap Tryz.prog 9 (plainElem Tryz.prog 3) b n D
  has : ∀ x : ByteArray, Maps.has D (.string x.data.toList) = true ↔ x ∈ ls
  size : Maps.size D ≤ ls.length
  le : n = ls.length
theorem MapIs.below {w w' : World} {b n : Nat} {ls : List ByteArray} {D : DataW Unit} (h : MapIs w b n ls D) (hg : w.grownBy w' none) : MapIs w' b n ls D := ⟨h.own.kept hg (by simp), h.has, h.size, h.le⟩
theorem MapIs.alloc {w : World} {b n : Nat} {ls : List ByteArray} {D : DataW Unit} (h : MapIs w b n ls D) (o : Obj) : MapIs (w.alloc o) b n ls D := ⟨h.own.alloc o, h.has, h.size, h.le⟩
theorem MapIs.put {w w' : World} {b n : Nat} {ls : List ByteArray} {D : DataW Unit} (h : MapIs w b n ls D) {s : ByteArray} {d : DataW Unit} (hs : s.size ≤ maxLen)
    (hown : w'.ownsMap Tryz.prog 9 (plainElem Tryz.prog 3) b (n + 1) (D.put (.string s.data.toList) d)) : MapIs w' b (n + 1) (ls ++ [s]) (D.put (.string s.data.toList) d) := by
  have ht := h.own.tidy lawK
  refine ⟨hown, fun x => ?_, ?_, by simp [h.le]⟩
  · rw [List.mem_append, List.mem_singleton]
    by_cases he : x = s
    · subst he
      rw [has_put_same ht.isMap (by simp [WideAt.IsKeyLit]) d]
      simp
    · have hne : (Lit.string x.data.toList) ≠ (Lit.string s.data.toList) := fun e => he (by
        have e1 : x.data.toList = s.data.toList := by simpa using e
        obtain ⟨⟨x⟩⟩ := x
        obtain ⟨⟨s⟩⟩ := s
        simp only at e1
        rw [e1])
      rw [has_put_other hne d, h.has]
      simp [he]
  · rw [size_put ht d, List.length_append]
    have := h.size
    split <;> simp <;> omega
theorem mapIs_made (w : World) : MapIs (w.alloc (.map #[] 0)) w.heap.size 0 [] (.map []) := ⟨World.ownsMap_made _ _ _ _, fun x => by simp [Maps.has], by simp [Maps.size], rfl⟩
theorem key_txt {s : ByteArray} (h : s.size ≤ maxLen) : keyOf Tryz.prog 9 (.string s) = some (.string s.data.toList) := Go.WideMaps.keyOf_string_mk Tryz.underlying9 h
set_option maxRecDepth 100000 in
set_option maxHeartbeats 3200000 in
theorem labels_c (es : List Eg) (na : Option Addr) (nn nc : Nat) (a : Option Addr) (c : Nat) (w : World) (he : RowAt w a (edgeR.flat es)) (hl : es.length ≤ 100000) (hs : ∀ x ∈ es, x.l.size ≤ 1000) :
    Calls Tryz.prog 12 #[.agg #[.slice na nn nc, .slice a es.length c]] w fun e w' => ∃ (g cap : Nat) (L : List ByteArray), e = .returned (.slice (some ⟨g, 0, none⟩) (List.length L) cap) ∧ StrictT L ∧ (∀ x, x ∈ L ↔ x ∈ es.map Eg.l) ∧
      w'.ownsRow w.heap.size 9 1 (.slice (some ⟨g, 0, none⟩) L.length cap) L.length (tx L) ∧ Below w.heap.size w w' := by
  have hmm := @run_makeMap Tryz.prog
  obtain ⟨N, hN⟩ : ∃ N, N = es.length := ⟨_, rfl⟩
  rw [← hN] at hl ⊢
  replace hN := hidden hN
  replace he := hidden he
  replace hs := hidden hs
  have hX := heap_alloc_new w (.cells #[.slice na nn nc, .slice a N c] 25)
  obtain ⟨⟨x0, x1⟩, -⟩ := box2f (heap_alloc_old _ (.map #[] 0) (by simp) |>.trans hX)
  have hM0 := hidden (mapIs_made (w.alloc (.cells #[.slice na nn nc, .slice a N c] 25)))
  have hB0 := hidden (((Below.refl w.heap.size w).alloc (Nat.le_refl _) (.cells #[.slice na nn nc, .slice a N c] 25)).alloc (by simp) (.map #[] 0))
  have hz : (w.alloc (.cells #[.slice na nn nc, .slice a N c] 25)).heap.size = w.heap.size + 1 := by simp
  rw [hz] at hM0
  clear hX hz
  go_enter Tryz.func12, Tryz.ntmps12
  go_wp2
  clear x0 x1 hmm
  go_loopw [10] (fun i x => ∃ (k : Nat) (D : DataW Unit), k ≤ N ∧ i = .int .i64 k ∧ Hid (MapIs x (w.heap.size + 1) k ((es.take k).map Eg.l) D) ∧ Hid (Below w.heap.size w x)) (fun i _ => N - (intOf i).toNat)
  case atStart => exact ⟨0, _, Nat.zero_le _, rfl, hM0, hB0⟩
  case round =>
    clear hM0 hB0
    obtain ⟨k, D, hk, rfl, hM, hB⟩ := hrel
    by_cases hlt : k < N
    · have hlt' : (k : Int) < (N : Int) := by omega
      have hlE : k < es.length := by rw [← hN.out]; exact hlt
      obtain ⟨b5, o5, rfl, hb5, e0, e1, e2, e3⟩ := edge_at (he.out.below hB.out) hlE
      have hls : (es.getD k Eg.none).l.size ≤ 1000 := hs.out _ (by
        rw [show es.getD k Eg.none = es[k] by simp [List.getD, hlE]]
        exact List.getElem_mem _)
      have htk : Hid ((es.take (k + 1)).map Eg.l = (es.take k).map Eg.l ++ [(es.getD k Eg.none).l]) := by
        show _ = _
        rw [take_snocR es Eg.none k hlE, List.map_append]; rfl
      generalize es.getD k Eg.none = q at *
      obtain ⟨qf, qt, ql, qw⟩ := q
      simp only at e0 e1 e2 e3 hls htk
      have hlm : ql.size ≤ maxLen := by unfold maxLen; omega
      have hkey := hidden (key_txt hlm)
      have hMA := hidden (hM.out.alloc (.cells #[.int .i64 qf, .int .i64 qt, .string ql, .int .i64 qw] 35))
      have hBA := hidden (hB.out.alloc hB.out.size (.cells #[.int .i64 qf, .int .i64 qt, .string ql, .int .i64 qw] 35))
      obtain ⟨⟨p0, p1, p2, p3⟩, -⟩ := box4f (heap_alloc_new wr (.cells #[.int .i64 qf, .int .i64 qt, .string ql, .int .i64 qw] 35))
      have hkm : k < maxLen := by unfold maxLen; omega
      clear hM hB hls
      go_wp2_with (first
        | (at_lookup; refine wpList_lookup_own_int _ rfl _ _ 52 rfl 9 3 .i64 lawK Tryz.underlying52 Tryz.underlying3 (zeroInt _) (w.heap.size + 1) k _ rfl hMA.out.own _ _ rfl hkey.out ?_; intro cc hat hwc)
        | (at_mapUpdate; refine wpList_mapUpdate_own _ rfl _ _ _ 52 rfl 9 3 lawK Tryz.underlying52 _ (w.heap.size + 1) k _ rfl hMA.out.own hkm _ _ _ rfl rfl hkey.out _ [] (plainElem_int Tryz.underlying3 (wrap64_wf _)) ?_; intro w1 hown1 hgrow1)
        | go_in)
      have hM1 := hMA.out.put hlm hown1
      rw [← htk.out] at hM1
      have hB1 := hidden (hBA.out.grown hgrow1 hBA.out.size (fun j hj => by cases hj; omega))
      go_roundw
      case rel => exact ⟨k + 1, _, by omega, by go_num, hM1, hB1⟩
      case measure => simp [intOf]; omega
    · have hlt' : ¬ (k : Int) < (N : Int) := by omega
      obtain rfl : k = N := by omega
      have ht : es.take k = es := List.take_of_length_le (by rw [← hN.out]; exact Nat.le_refl _)
      have hM2 := hM.out
      rw [ht] at hM2
      have hr := rising_c (w.heap.size + 1) k D wr hM2.own (by have := hM2.size; rw [List.length_map, ← hN.out] at this; omega)
      have hhas := hidden hM2.has
      have hws := hB.out.size
      clear hM hM2 ht
      go_wp2_with fail
      refine hr.mono ?_
      rintro e w5 ⟨g, cap, L, rfl, h1, h2, h3, h4⟩
      have h5 := hidden (hB.out.trans (h4.mono hws))
      have h6 := hidden (own_le h3 hws)
      clear h3 h4 hr
      go_wp2
      go_ret
      exact ⟨g, cap, L, rfl, h1, fun x => (h2 x).trans (hhas.out x), h6.out, h5.out⟩
set_option maxRecDepth 100000 in
set_option maxHeartbeats 3200000 in
theorem kinds_c (ns : List Nd) (a : Option Addr) (c : Nat) (ea : Option Addr) (en ec : Nat) (w : World) (he : HoldsN w (.slice a ns.length c) ns) (hl : ns.length ≤ 100000) (hs : ∀ x ∈ ns, x.l.size ≤ 1000) :
    Calls Tryz.prog 14 #[.agg #[.slice a ns.length c, .slice ea en ec]] w fun e w' => ∃ (g cap : Nat) (L : List ByteArray), e = .returned (.slice (some ⟨g, 0, none⟩) (List.length L) cap) ∧ StrictT L ∧ (∀ x, x ∈ L ↔ x ∈ ns.map Nd.l) ∧
      w'.ownsRow w.heap.size 9 1 (.slice (some ⟨g, 0, none⟩) L.length cap) L.length (tx L) ∧ Below w.heap.size w w' := by
  have hmm := @run_makeMap Tryz.prog
  obtain ⟨N, hN⟩ : ∃ N, N = ns.length := ⟨_, rfl⟩
  rw [← hN] at hl he ⊢
  replace hN := hidden hN
  replace he := hidden he
  replace hs := hidden hs
  have hX := heap_alloc_new w (.cells #[.slice a N c, .slice ea en ec] 25)
  obtain ⟨⟨x0, x1⟩, -⟩ := box2f (heap_alloc_old _ (.map #[] 0) (by simp) |>.trans hX)
  have hM0 := hidden (mapIs_made (w.alloc (.cells #[.slice a N c, .slice ea en ec] 25)))
  have hB0 := hidden (((Below.refl w.heap.size w).alloc (Nat.le_refl _) (.cells #[.slice a N c, .slice ea en ec] 25)).alloc (by simp) (.map #[] 0))
  have hz : (w.alloc (.cells #[.slice a N c, .slice ea en ec] 25)).heap.size = w.heap.size + 1 := by simp
  rw [hz] at hM0
  clear hX hz
  go_enter Tryz.func14, Tryz.ntmps14
  go_wp2
  clear x0 x1 hmm
  go_loopw [10] (fun i x => ∃ (k : Nat) (D : DataW Unit), k ≤ N ∧ i = .int .i64 k ∧ Hid (MapIs x (w.heap.size + 1) k ((ns.take k).map Nd.l) D) ∧ Hid (Below w.heap.size w x)) (fun i _ => N - (intOf i).toNat)
  case atStart => exact ⟨0, _, Nat.zero_le _, rfl, hM0, hB0⟩
  case round =>
    clear hM0 hB0
    obtain ⟨k, D, hk, rfl, hM, hB⟩ := hrel
    by_cases hlt : k < N
    · have hlt' : (k : Int) < (N : Int) := by omega
      have hlE : k < ns.length := by rw [← hN.out]; exact hlt
      obtain ⟨b5, o5, pa, pn, pc, rfl, hb5, e0, e1, -⟩ := node_at (he.out.calm (.of_below hB.out)) hlE
      have hls : (ns.getD k Nd.none).l.size ≤ 1000 := hs.out _ (by
        rw [show ns.getD k Nd.none = ns[k] by simp [List.getD, hlE]]
        exact List.getElem_mem _)
      have htk : Hid ((ns.take (k + 1)).map Nd.l = (ns.take k).map Nd.l ++ [(ns.getD k Nd.none).l]) := by
        show _ = _
        rw [take_snocR ns Nd.none k hlE, List.map_append]; rfl
      generalize (ns.getD k Nd.none).l = ql at *
      have hlm : ql.size ≤ maxLen := by unfold maxLen; omega
      have hkey := hidden (key_txt hlm)
      have hMA := hidden (hM.out.alloc (.cells #[.string ql, .slice pa pn pc] 33))
      have hBA := hidden (hB.out.alloc hB.out.size (.cells #[.string ql, .slice pa pn pc] 33))
      obtain ⟨⟨p0, p1⟩, -⟩ := box2f (heap_alloc_new wr (.cells #[.string ql, .slice pa pn pc] 33))
      have hkm : k < maxLen := by unfold maxLen; omega
      clear hM hB hls
      go_wp2_with (first
        | (at_lookup; refine wpList_lookup_own_int _ rfl _ _ 52 rfl 9 3 .i64 lawK Tryz.underlying52 Tryz.underlying3 (zeroInt _) (w.heap.size + 1) k _ rfl hMA.out.own _ _ rfl hkey.out ?_; intro cc hat hwc)
        | (at_mapUpdate; refine wpList_mapUpdate_own _ rfl _ _ _ 52 rfl 9 3 lawK Tryz.underlying52 _ (w.heap.size + 1) k _ rfl hMA.out.own hkm _ _ _ rfl rfl hkey.out _ [] (plainElem_int Tryz.underlying3 (wrap64_wf _)) ?_; intro w1 hown1 hgrow1)
        | go_in)
      have hM1 := hMA.out.put hlm hown1
      rw [← htk.out] at hM1
      have hB1 := hidden (hBA.out.grown hgrow1 hBA.out.size (fun j hj => by cases hj; omega))
      go_roundw
      case rel => exact ⟨k + 1, _, by omega, by go_num, hM1, hB1⟩
      case measure => simp [intOf]; omega
    · have hlt' : ¬ (k : Int) < (N : Int) := by omega
      obtain rfl : k = N := by omega
      have ht : ns.take k = ns := List.take_of_length_le (by rw [← hN.out]; exact Nat.le_refl _)
      have hM2 := hM.out
      rw [ht] at hM2
      have hr := rising_c (w.heap.size + 1) k D wr hM2.own (by have := hM2.size; rw [List.length_map, ← hN.out] at this; omega)
      have hhas := hidden hM2.has
      have hws := hB.out.size
      clear hM hM2 ht
      go_wp2_with fail
      refine hr.mono ?_
      rintro e w5 ⟨g, cap, L, rfl, h1, h2, h3, h4⟩
      have h5 := hidden (hB.out.trans (h4.mono hws))
      have h6 := hidden (own_le h3 hws)
      clear h3 h4 hr
      go_wp2
      go_ret
      exact ⟨g, cap, L, rfl, h1, fun x => (h2 x).trans (hhas.out x), h6.out, h5.out⟩
/-- All names of properties, in their order. -/
def namesL (ns : List Nd) : List ByteArray := ns.flatMap fun x => x.ps.map Pp.s
theorem namesL_app (l m : List Nd) : namesL (l ++ m) = namesL l ++ namesL m := by simp [namesL]
theorem namesL_one (x : Nd) : namesL [x] = x.ps.map Pp.s := by simp [namesL]
set_option maxRecDepth 100000 in
set_option maxHeartbeats 3200000 in
theorem names_c (ns : List Nd) (a : Option Addr) (c : Nat) (ea : Option Addr) (en ec : Nat) (w : World) (he : HoldsN w (.slice a ns.length c) ns) (hl : ns.length ≤ 100000) (hm : (namesL ns).length ≤ 1000000) (hs : ∀ x ∈ namesL ns, x.size ≤ 1000) :
    Calls Tryz.prog 16 #[.agg #[.slice a ns.length c, .slice ea en ec]] w fun e w' => ∃ (g cap : Nat) (L : List ByteArray), e = .returned (.slice (some ⟨g, 0, none⟩) (List.length L) cap) ∧ StrictT L ∧ (∀ x, x ∈ L ↔ x ∈ namesL ns) ∧
      w'.ownsRow w.heap.size 9 1 (.slice (some ⟨g, 0, none⟩) L.length cap) L.length (tx L) ∧ Below w.heap.size w w' := by
  have hmm := @run_makeMap Tryz.prog
  obtain ⟨N, hN⟩ : ∃ N, N = ns.length := ⟨_, rfl⟩
  rw [← hN] at hl he ⊢
  replace hN := hidden hN
  replace he := hidden he
  replace hs := hidden hs
  replace hm := hidden hm
  have hX := heap_alloc_new w (.cells #[.slice a N c, .slice ea en ec] 25)
  obtain ⟨⟨x0, x1⟩, -⟩ := box2f (heap_alloc_old _ (.map #[] 0) (by simp) |>.trans hX)
  have hM0 := hidden (mapIs_made (w.alloc (.cells #[.slice a N c, .slice ea en ec] 25)))
  have hB0 := hidden (((Below.refl w.heap.size w).alloc (Nat.le_refl _) (.cells #[.slice a N c, .slice ea en ec] 25)).alloc (by simp) (.map #[] 0))
  have hz : (w.alloc (.cells #[.slice a N c, .slice ea en ec] 25)).heap.size = w.heap.size + 1 := by simp
  rw [hz] at hM0
  clear hX hz
  go_enter Tryz.func16, Tryz.ntmps16
  go_wp2
  clear x0 x1 hmm
  go_loopw [12] (fun i x => ∃ (k n : Nat) (D : DataW Unit), k ≤ N ∧ i = .int .i64 k ∧ Hid (MapIs x (w.heap.size + 1) n (namesL (ns.take k)) D) ∧ Hid (Below w.heap.size w x)) (fun i _ => N - (intOf i).toNat)
  case atStart => exact ⟨0, 0, _, Nat.zero_le _, rfl, hM0, hB0⟩
  case round =>
    clear hM0 hB0
    obtain ⟨k, n, D, hk, rfl, hM, hB⟩ := hrel
    by_cases hlt : k < N
    · have hlt' : (k : Int) < (N : Int) := by omega
      have hlE : k < ns.length := by rw [← hN.out]; exact hlt
      obtain ⟨b5, o5, pa, pn, pc, rfl, hb5, e0, e1, hps⟩ := node_at he.out hlE
      replace e0 := (hB.out.cell (p := ⟨b5, o5 + k * 2, none⟩) hb5).trans e0
      replace e1 := (hB.out.cell (p := ⟨b5, o5 + k * 2 + 1, none⟩) hb5).trans e1
      have htk : Hid (namesL (ns.take (k + 1)) = namesL (ns.take k) ++ (ns.getD k Nd.none).ps.map Pp.s) := by
        show _ = _
        rw [take_snocR ns Nd.none k hlE, namesL_app, namesL_one]
      have hall : Hid (namesL ns = namesL (ns.take (k + 1)) ++ namesL (ns.drop (k + 1))) := by
        show _ = _
        rw [← namesL_app, List.take_append_drop]
      obtain ⟨pa', pc', hpe, hpr⟩ := hps
      simp only [Value.slice.injEq] at hpe
      obtain ⟨rfl, rfl, rfl⟩ := hpe
      generalize (ns.getD k Nd.none).l = ql at *
      generalize (ns.getD k Nd.none).ps = ps at *
      have hmem : Hid (∀ p ∈ ps, p.s.size ≤ 1000) := fun p hp => hs.out _ (by
        rw [hall.out, htk.out]
        exact List.mem_append_left _ (List.mem_append_right _ (List.mem_map_of_mem hp)))
      have hcnt : Hid (∀ j, j ≤ ps.length → (namesL (ns.take k)).length + j ≤ 1000000) := fun j hj => by
        have h1 := hm.out
        rw [hall.out, htk.out] at h1
        simp only [List.length_append, List.length_map] at h1
        omega
      have hMA := hidden (hM.out.alloc (.cells #[.string ql, .slice pa ps.length pc] 33))
      have hBA := hidden (hB.out.alloc hB.out.size (.cells #[.string ql, .slice pa ps.length pc] 33))
      have hPA := hidden hpr
      obtain ⟨⟨p0, p1⟩, -⟩ := box2f (heap_alloc_new wr (.cells #[.string ql, .slice pa ps.length pc] 33))
      have hM1 : Hid (MapIs (wr.alloc (.cells #[.string ql, .slice pa ps.length pc] 33)) (w.heap.size + 1) (n + 0) (namesL (ns.take k) ++ (ps.take 0).map Pp.s) D) := by
        show MapIs ..
        rw [List.take_zero, List.map_nil, List.append_nil]
        exact hMA.out
      obtain ⟨M, hMl⟩ : ∃ M, M = ps.length := ⟨_, rfl⟩
      rw [← hMl] at hM1 hBA p0 p1 e1
      replace hMl := hidden hMl
      have hM6 : M ≤ 1000000 := by have h1 := hcnt.out M (by rw [← hMl.out]; exact Nat.le_refl _); omega
      have hnl : Hid (n = (namesL (ns.take k)).length) := hM.out.le
      clear hM hB hpr hMA
      go_wp2
      clear p0 p1 e0 e1
      go_loopw [19] (fun i x => ∃ (j : Nat) (D : DataW Unit), j ≤ M ∧ i = .int .i64 j ∧ Hid (MapIs x (w.heap.size + 1) (n + j) (namesL (ns.take k) ++ (ps.take j).map Pp.s) D) ∧ Hid (Below w.heap.size w x)) (fun i _ => M - (intOf i).toNat)
      case atStart => exact ⟨0, _, Nat.zero_le _, rfl, hM1, hBA⟩
      case round =>
        clear hM1 hBA
        obtain ⟨j, D, hj, rfl, hM, hB⟩ := hrel
        by_cases hlt2 : j < M
        · have hlt2' : (j : Int) < (M : Int) := by omega
          have hlP : j < ps.length := by rw [← hMl.out]; exact hlt2
          obtain ⟨b6, o6, rfl, hb6, f0, f1, f2, f3⟩ := prop_at (hPA.out.below hB.out) hlP
          have hls : (ps.getD j Pp.none).s.size ≤ 1000 := hmem.out _ (by
            rw [show ps.getD j Pp.none = ps[j] by simp [List.getD, hlP]]
            exact List.getElem_mem _)
          have htj : Hid (namesL (ns.take k) ++ (ps.take (j + 1)).map Pp.s = (namesL (ns.take k) ++ (ps.take j).map Pp.s) ++ [(ps.getD j Pp.none).s]) := by
            show _ = _
            rw [take_snocR ps Pp.none j hlP, List.map_append, List.append_assoc]; rfl
          generalize ps.getD j Pp.none = q at *
          obtain ⟨qs, qk, qn, qt⟩ := q
          simp only at f0 f1 f2 f3 hls htj
          have hlm : qs.size ≤ maxLen := by unfold maxLen; omega
          have hkey := hidden (key_txt hlm)
          have hMA := hidden (hM.out.alloc (.cells #[.string qs, .int .i64 qk, .int .i64 qn, .string qt] 43))
          have hBA2 := hidden (hB.out.alloc hB.out.size (.cells #[.string qs, .int .i64 qk, .int .i64 qn, .string qt] 43))
          obtain ⟨⟨p0, p1, p2, p3⟩, -⟩ := box4f (heap_alloc_new wr (.cells #[.string qs, .int .i64 qk, .int .i64 qn, .string qt] 43))
          have hkm : n + j < maxLen := by have h1 := hcnt.out j (by rw [← hMl.out]; exact hj); have h2 := hnl.out; unfold maxLen; omega
          clear hM hB hls
          go_wp2_with (first
            | (at_lookup; refine wpList_lookup_own_int _ rfl _ _ 52 rfl 9 3 .i64 lawK Tryz.underlying52 Tryz.underlying3 (zeroInt _) (w.heap.size + 1) (n + j) _ rfl hMA.out.own _ _ rfl hkey.out ?_; intro cc hat hwc)
            | (at_mapUpdate; refine wpList_mapUpdate_own _ rfl _ _ _ 52 rfl 9 3 lawK Tryz.underlying52 _ (w.heap.size + 1) (n + j) _ rfl hMA.out.own hkm _ _ _ rfl rfl hkey.out _ [] (plainElem_int Tryz.underlying3 (wrap64_wf _)) ?_; intro w1 hown1 hgrow1)
            | go_in)
          have hM1 := hMA.out.put hlm hown1
          rw [← htj.out] at hM1
          have hB1 := hidden (hBA2.out.grown hgrow1 hBA2.out.size (fun j hj => by cases hj; omega))
          go_roundw
          case rel => exact ⟨j + 1, _, by omega, by go_num, hM1, hB1⟩
          case measure => simp [intOf]; omega
        · have hlt2' : ¬ (j : Int) < (M : Int) := by omega
          have hM2 : Hid (MapIs wr (w.heap.size + 1) (n + j) (namesL (ns.take (k + 1))) D) := by
            have h := hM.out
            rw [List.take_of_length_le (l := ps) (i := j) (by rw [← hMl.out]; omega)] at h
            rw [htk.out]
            exact h
          clear hM htk hall hcnt hmem
          go_wp2
          go_roundw
          case rel => exact ⟨k + 1, _, _, by omega, by go_num, hM2, hB⟩
          case measure => simp [intOf]; omega
    · have hlt' : ¬ (k : Int) < (N : Int) := by omega
      obtain rfl : k = N := by omega
      have ht : ns.take k = ns := List.take_of_length_le (by rw [← hN.out]; exact Nat.le_refl _)
      have hM2 := hM.out
      rw [ht] at hM2
      have hr := rising_c (w.heap.size + 1) n D wr hM2.own (by have := hM2.size; have := hm.out; omega)
      have hhas := hidden hM2.has
      have hws := hB.out.size
      clear hM hM2 ht
      go_wp2_with fail
      refine hr.mono ?_
      rintro e w5 ⟨g, cap, L, rfl, h1, h2, h3, h4⟩
      have h5 := hidden (hB.out.trans (h4.mono hws))
      have h6 := hidden (own_le h3 hws)
      clear h3 h4 hr
      go_wp2
      go_ret
      exact ⟨g, cap, L, rfl, h1, fun x => (h2 x).trans (hhas.out x), h6.out, h5.out⟩
end Go.Proofs.YtjgddkbpfpgaoacGreatDoor
