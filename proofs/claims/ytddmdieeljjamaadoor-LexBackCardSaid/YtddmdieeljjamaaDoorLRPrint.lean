/-
  TEXTS JOINED BY A BLANK; a row of texts that is filled. No function is named here.
-/
import Derived.Test.YtddmdieeljjamaaDoorGCmp
import Derived.Lib.Join
import Derived.Test.YtddmdieeljjamaaDoorLRSame
import Derived.Test.YtddmdieeljjamaaDoorRPrint
namespace Go.Proofs.YtddmdieeljjamaaDoor
open Go.ChangeShapes Go.WideShapes Go.ChangeAt Go.RowKit

/-- Texts joined by a blank. -/
def jn (ts : List ByteArray) : ByteArray := ⟨(Lib.join (ts.map (·.data.toList)) [32]).toArray⟩
theorem jn_nil : jn [] = ⟨#[]⟩ := rfl
theorem jn_one (t : ByteArray) : jn [t] = t := by
  apply ByteArray.ext
  simp [jn, Lib.join_one]
theorem jn_snoc (ts : List ByteArray) (t : ByteArray) (h : ts ≠ []) : jn (ts ++ [t]) = (jn ts ++ ⟨#[32]⟩) ++ t := by
  obtain ⟨x, r, rfl⟩ := List.exists_cons_of_ne_nil h
  apply ByteArray.ext
  apply Array.ext'
  simp [jn, Lib.join_cons, Lib.joinTail]
theorem jn_size (m : Nat) : ∀ ts : List ByteArray, (∀ t ∈ ts, t.size ≤ m) → (jn ts).size ≤ ts.length * (m + 1)
  | [], _ => Nat.zero_le _
  | [t], h => by
    rw [jn_one]
    have := h t (by simp)
    simp; omega
  | t :: s :: r, h => by
    have ih := jn_size m (s :: r) (fun x hx => h x (by simp at hx ⊢; right; exact hx))
    have ht := h t (by simp)
    have e : (jn (t :: s :: r)).size = t.size + (1 + (jn (s :: r)).size) := by
      simp only [jn, ByteArray.size, List.map_cons, List.size_toArray]
      simp only [Lib.join_cons, Lib.joinTail, List.map_cons, List.flatten_cons, List.length_append, List.length_cons, List.length_nil, Array.length_toList]
      omega
    rw [e]
    simp only [List.length_cons] at ih ⊢
    rw [show (r.length + 1 + 1) * (m + 1) = (r.length + 1) * (m + 1) + (m + 1) by rw [Nat.add_mul (r.length + 1), Nat.one_mul]]
    omega
/-- A row of texts, the first k of them told. -/
def trow (ts : List ByteArray) (k : Nat) : List Value := (ts.take k).map Value.string ++ List.replicate (ts.length - k) (.string ⟨#[]⟩)
theorem trow_len (ts : List ByteArray) (k : Nat) (hk : k ≤ ts.length) : (trow ts k).length = ts.length := by
  simp [trow, List.length_take]; omega
theorem trow_zero (ts : List ByteArray) : trow ts 0 = List.replicate ts.length (.string ⟨#[]⟩) := by simp [trow]
theorem trow_full (ts : List ByteArray) : trow ts ts.length = ts.map Value.string := by simp [trow]
theorem trow_set (ts : List ByteArray) (k : Nat) (hk : k < ts.length) : (trow ts k).set k (.string (ts.getD k ⟨#[]⟩)) = trow ts (k + 1) := by
  apply List.ext_getElem?
  intro j
  rw [List.getElem?_set]
  have hl := trow_len ts k (by omega)
  by_cases hj : k = j
  · subst hj
    rw [if_pos rfl, if_pos (by rw [hl]; exact hk)]
    unfold trow
    rw [List.getElem?_append_left (by simp [List.length_take]; omega)]
    simp [List.getD, hk]
  · rw [if_neg hj]
    unfold trow
    by_cases hlt : j < k
    · rw [List.getElem?_append_left (by simp [List.length_take]; omega), List.getElem?_append_left (by simp [List.length_take]; omega)]
      simp [hlt, show j < k + 1 by omega]
    · rw [List.getElem?_append_right (by simp [List.length_take]; omega), List.getElem?_append_right (by simp [List.length_take]; omega)]
      simp only [List.length_map, List.length_take, List.getElem?_replicate]
      rw [Nat.min_eq_left (by omega), Nat.min_eq_left (by omega)]
      by_cases h2 : j < ts.length
      · rw [if_pos (by omega), if_pos (by omega)]
      · rw [if_neg (by omega), if_neg (by omega)]
theorem trow_set2 (ts : List ByteArray) (k : Nat) (hk : k < ts.length) (x : Value) : ((trow ts k).set k x).set k (.string (ts.getD k ⟨#[]⟩)) = trow ts (k + 1) := by
  rw [List.set_set, trow_set ts k hk]
theorem trow_cells {w : World} {B g n c : Nat} {e : TypeId} {ts : List ByteArray} (h : w.ownsRow B e 1 (.slice (some ⟨g, 0, none⟩) n c) n (ts.map Value.string)) : ∀ (j : Nat) x, ts[j]? = some x → w.cell? ⟨g, 0 + j, none⟩ = some (.string x) := fun j x hj => by
  rcases h.2 with ⟨h1, _⟩ | ⟨g', cap, cur, h1, _, h3, _, _, _, h7⟩
  · cases h1
  · simp only [Value.slice.injEq, Option.some.injEq, Addr.mk.injEq] at h1
    obtain ⟨⟨rfl, _⟩, _, _⟩ := h1
    have hl := h.1
    rw [List.length_map, Nat.mul_one] at hl
    have hlt := (List.getElem?_eq_some_iff.1 hj).1
    have h2 : (ts.map Value.string)[j]? = some (.string x) := by simp [hj]
    rw [← h7, List.getElem?_take, if_pos (by omega)] at h2
    simp only [World.cell?, h3, Nat.zero_add]
    simpa using h2
end Go.Proofs.YtddmdieeljjamaaDoor
/-
  WORDS PRINTED: the program's, by contract.
-/
namespace Go.Proofs.YtddmdieeljjamaaDoor
open Go.ChangeShapes Go.WideShapes Go.ChangeAt Go.RowKit

/-- A value's text; none's is empty. -/
def vtx (k n : Int) (s : ByteArray) : ByteArray := if goodV k n s = true ∧ k ≠ 0 then tx (printL k n s.data.toList) else ⟨#[]⟩
def wtx (x : Wd) : ByteArray := if x.k = 3 then vtx x.vk x.vn x.vt else x.t
theorem good_kind {k n : Int} {s : ByteArray} (h : goodV k n s = true) : k = 0 ∨ (k = 1 ∧ -1000000000000 ≤ n ∧ n ≤ 1000000000000) ∨ (k = 2 ∧ s.size ≤ 100) := by
  unfold goodV at h
  split at h
  · left; assumption
  · split at h
    · right; left
      simp only [Bool.and_eq_true, decide_eq_true_eq] at h
      exact ⟨by assumption, h.1.1, h.1.2⟩
    · split at h
      · right; right
        simp only [Bool.and_eq_true, decide_eq_true_eq] at h
        exact ⟨by assumption, h.2.1⟩
      · cases h
theorem itoa_len (n : Int) (h1 : -1000000000000 ≤ n) (h2 : n ≤ 1000000000000) : (Lib.itoa n).length ≤ 21 := by
  unfold Lib.itoa
  split
  · have := dec_len20 n.natAbs (by omega)
    simp; omega
  · have := dec_len20 n.toNat (by omega)
    omega
theorem vtx_size (k n : Int) (s : ByteArray) : (vtx k n s).size ≤ 202 := by
  unfold vtx
  split
  · rename_i h
    rcases good_kind h.1 with h0 | ⟨rfl, h1, h2⟩ | ⟨rfl, h1⟩
    · exact absurd h0 h.2
    · have := itoa_len n h1 h2
      rw [tx_size]
      simp only [printL, if_true]; omega
    · have := escL_len s.data.toList
      have e : s.data.toList.length = s.size := by simp
      rw [tx_size]
      simp [printL]; omega
  · exact Nat.zero_le _
theorem vprint_c (k n : Int) (s : ByteArray) (w : World) (h0 : -9223372036854775808 ≤ n) (h1 : n ≤ 9223372036854775807) (hs : s.size ≤ 1000)
    (hT : ∀ x, Below w.heap.size w x → Lib.TabIs Tryd.prog x "internal/strconv.uint64pow10" .u64 Lib.pow10Tab) :
    Calls Tryd.prog 13 #[.agg #[.int .i64 k, .int .i64 n, .string s]] w fun e w' => (∃ c : Int, e = .returned (.tuple #[.string (vtx k n s), .int .i64 c])) ∧ Below w.heap.size w w' := by
  by_cases hg : goodV k n s = true ∧ k ≠ 0
  · have e : vtx k n s = tx (printL k n s.data.toList) := if_pos hg
    rw [e]
    rcases good_kind hg.1 with h | ⟨rfl, _, _⟩ | ⟨rfl, _⟩
    · exact absurd h hg.2
    · exact (print_num n s w h0 h1 hg.1 hs hT).mono fun e w' ⟨he, hB⟩ => ⟨⟨0, he⟩, hB⟩
    · exact (print_text n s w hg.1 hs).mono fun e w' ⟨he, hB⟩ => ⟨⟨0, he⟩, hB⟩
  · have e : vtx k n s = ⟨#[]⟩ := if_neg hg
    rw [e]
    refine (print_bad k n s w ?_ hs).mono fun e w' ⟨he, hB⟩ => ⟨⟨2, he⟩, hB⟩
    by_cases h2 : goodV k n s = true
    · exact .inr (Classical.byContradiction fun h => hg ⟨h2, h⟩)
    · exact .inl (by simpa using h2)
theorem rvprint_c (k n : Int) (s : ByteArray) (w : World) (hg : goodV k n s = true) (hk : k ≠ 0) (hs : s.size ≤ 1000) :
    Calls Tryd.prog 19 #[.agg #[.int .i64 k, .int .i64 n, .string s]] w fun e w' => e = .returned (.string (vtx k n s)) ∧ Below w.heap.size w w' := by
  have e : vtx k n s = tx (printL k n s.data.toList) := if_pos ⟨hg, hk⟩
  rw [e]
  rcases good_kind hg with h | ⟨rfl, h1, h2⟩ | ⟨rfl, _⟩
  · exact absurd h hk
  · exact rprint_num n s w h1 h2
  · exact rprint_text n s w hs
/-- Words with bounds. -/
def Wd.ok (x : Wd) : Prop := x.t.size ≤ 40 ∧ x.vt.size ≤ 120 ∧ -9223372036854775808 ≤ x.vn ∧ x.vn ≤ 9223372036854775807
theorem wtx_size {x : Wd} (h : x.ok) : (wtx x).size ≤ 202 := by
  unfold wtx
  split
  · exact vtx_size _ _ _
  · have := h.1; omega
theorem set_othL {x : World} {b c : Nat} {o : Obj} (h : x.heap[c]? = some o) (hne : b ≠ c) (j : Nat) (v : Value) : (x.setCell ⟨b, j, none⟩ v).heap[c]? = some o := by
  rw [← h]
  simp [World.setCell, Array.getElem?_modify, hne]
theorem infoS1 : (Tryd.prog.info? 9).map (fun i => (i.zero, i.size, i.bytes)) = some (some (.string ⟨#[]⟩), 1, 16) := by kernel_rfl
set_option maxHeartbeats 3200000 in
set_option maxRecDepth 100000 in
theorem lprint_c (v : Value) (ps : List Wd) (w : World) (hv : SlR wordR w v ps) (hz : ps.length ≤ 200) (hok : ∀ x ∈ ps, x.ok)
    (hT : ∀ x, Below w.heap.size w x → Lib.TabIs Tryd.prog x "internal/strconv.uint64pow10" .u64 Lib.pow10Tab) :
    Calls Tryd.prog 7 #[v] w fun e w' => e = .returned (.string (jn (ps.map wtx))) ∧ Below w.heap.size w w' := by
  obtain ⟨a, cap, rfl, -, -, -, hrow⟩ := hv
  obtain ⟨i0, hi, hz0, hz1, hz2⟩ := info_parts infoS1
  replace hrow := hidden hrow
  replace hok := hidden hok
  replace hT := hidden hT
  obtain ⟨ts, hts⟩ : ∃ ts, ts = ps.map wtx := ⟨_, rfl⟩
  have htl : Hid (ts.length = ps.length) := by show _ = _; rw [hts, List.length_map]
  have hbig : Hid ((jn ts).size ≤ 40600) := by
    show _ ≤ _
    have h := jn_size 202 ts (fun t ht => by
      rw [hts] at ht
      obtain ⟨x, hx, rfl⟩ := List.mem_map.1 ht
      exact wtx_size (hok.out x hx))
    rw [htl.out] at h
    have : ps.length * (202 + 1) ≤ 200 * 203 := Nat.mul_le_mul_right _ hz
    omega
  have hget : Hid (∀ k, k < ps.length → ts.getD k ⟨#[]⟩ = wtx (ps.getD k Wd.none)) := fun k hk => by
    rw [hts]; simp [List.getD, hk]
  rw [← hts]
  replace hts := hidden hts
  go_enter Tryd.func7, Tryd.ntmps7
  go_wp2_with (refine wpList_make_full _ rfl _ _ 38 rfl w.heap.size 9 i0 (.string ⟨#[]⟩) 1 Tryd.underlying38 hi hz0 hz1 .i64 .i64 _ _ ps.length rfl rfl ?d1 ?d2 ?d3 ?d4 ?d5 ?_)
  case d1 => rfl
  case d2 => rfl
  case d3 => rw [hz2]; omega
  case d4 => unfold maxLen; omega
  case d5 => omega
  intro w0 hown0 hgrow0
  have hB0 : Hid (Below w.heap.size w w0) := (Below.refl _ _).grown hgrow0 (Nat.le_refl _) (fun j hj => by cases hj)
  have hown1 : Hid (w0.ownsRow w.heap.size 9 1 (.slice (some ⟨w.heap.size, 0, none⟩) ps.length ps.length) ps.length (trow ts 0)) := by
    show World.ownsRow _ _ _ _ _ _ _
    rw [trow_zero, htl.out]
    simpa [madeCells, Value.cells, Nat.mod_one, List.map_const'] using hown0
  clear hown0 hgrow0
  go_wp2
  go_loopw [11] (fun i wr => ∃ k : Nat, k ≤ ps.length ∧ i = .int .i64 k ∧ Hid (wr.ownsRow w.heap.size 9 1 (.slice (some ⟨w.heap.size, 0, none⟩) ps.length ps.length) ps.length (trow ts k)) ∧ Hid (Below w.heap.size w wr))
    (fun i _ => ps.length - (intOf i).toNat)
  case atStart => exact ⟨0, Nat.zero_le _, rfl, hown1, hB0⟩
  case round =>
    clear hB0 hown1
    obtain ⟨k, hk, rfl, hown, hnx⟩ := hrel
    by_cases hlt : k < ps.length
    · obtain ⟨b, off, rfl, hb, hc1, hc2, hc3, hc4, hc5, hc6⟩ := word_at hrow.out hlt
      have hx1 := (hnx.out.cell (p := ⟨b, off + k * 6, none⟩) (by exact hb)).trans hc1
      have hx2 := (hnx.out.cell (p := ⟨b, off + k * 6 + 1, none⟩) (by exact hb)).trans hc2
      have hx3 := (hnx.out.cell (p := ⟨b, off + k * 6 + 2, none⟩) (by exact hb)).trans hc3
      have hx4 := (hnx.out.cell (p := ⟨b, off + k * 6 + 3, none⟩) (by exact hb)).trans hc4
      have hx5 := (hnx.out.cell (p := ⟨b, off + k * 6 + 4, none⟩) (by exact hb)).trans hc5
      have hx6 := (hnx.out.cell (p := ⟨b, off + k * 6 + 5, none⟩) (by exact hb)).trans hc6
      have hpo : Hid ((ps.getD k Wd.none).ok) := by
        have e : ps.getD k Wd.none = ps[k] := by simp [List.getD, hlt]
        show Wd.ok _
        rw [e]; exact hok.out _ (List.getElem_mem _)
      have hgk := hidden (hget.out k hlt)
      clear hc1 hc2 hc3 hc4 hc5 hc6
      generalize ps.getD k Wd.none = p at *
      obtain ⟨pk, pt, pvk, pvn, pvt, pp⟩ := p
      simp only at hx1 hx2 hx3 hx4 hx5 hx6
      have hlt0 : w.heap.size < wr.heap.size := by
        rcases hown.out.2 with ⟨h, _⟩ | ⟨g, _, _, h, _, h3, _⟩
        · cases h
        · simp only [Value.slice.injEq, Option.some.injEq, Addr.mk.injEq] at h
          rw [← h.1.1] at h3
          exact (Array.getElem?_eq_some_iff.1 h3).1
      have hne : w.heap.size ≠ wr.heap.size := by omega
      replace hlt0 := hidden hlt0
      have hX := hidden (heap_alloc_new wr (.cells #[.int .i64 pk, .string pt, .int .i64 pvk, .int .i64 pvn, .string pvt, .int .i64 pp] 35))
      obtain ⟨⟨b0, b1, b2, b3, b4, b5⟩, -⟩ := box6f hX.out
      have hownA := hidden (hown.out.alloc (.cells #[.int .i64 pk, .string pt, .int .i64 pvk, .int .i64 pvn, .string pvt, .int .i64 pp] 35))
      have hBA : Hid (Below w.heap.size w (wr.alloc (.cells #[.int .i64 pk, .string pt, .int .i64 pvk, .int .i64 pvn, .string pvt, .int .i64 pp] 35))) := hnx.out.alloc (Nat.le_of_lt hlt0.out) _
      obtain ⟨u1, hcs1⟩ : ∃ u, (wr.alloc (.cells #[.int .i64 pk, .string pt, .int .i64 pvk, .int .i64 pvn, .string pvt, .int .i64 pp] 35)).cell? ⟨w.heap.size, k, none⟩ = some u := ⟨_, by rw [hownA.out.cellAt k (by omega)]; exact List.getElem?_eq_getElem (by rw [trow_len _ _ (by rw [htl.out]; omega), htl.out]; exact hlt)⟩
      have hfr : (wr.alloc (.cells #[.int .i64 pk, .string pt, .int .i64 pvk, .int .i64 pvn, .string pvt, .int .i64 pp] 35)).frozen? ⟨w.heap.size, k, none⟩ = false := hownA.out.frozenAt k
      have hY := hidden (set_othL hX.out hne k (.string pt))
      obtain ⟨⟨y0, y1, y2, y3, y4, y5⟩, -⟩ := box6f hY.out
      have hst := hidden (hownA.out.stored k (.string pt)).1
      have hBY : Hid (Below w.heap.size w ((wr.alloc (.cells #[.int .i64 pk, .string pt, .int .i64 pvk, .int .i64 pvn, .string pvt, .int .i64 pp] 35)).setCell ⟨w.heap.size, k, none⟩ (.string pt))) := hBA.out.setCell (Nat.le_refl _) _
      clear hrow hget hok hown hnx hX hBA hownA
      by_cases h3 : pk = 3
      · subst h3
        have hpr := vprint_c pvk pvn pvt ((wr.alloc (.cells #[.int .i64 3, .string pt, .int .i64 pvk, .int .i64 pvn, .string pvt, .int .i64 pp] 35)).setCell ⟨w.heap.size, k, none⟩ (.string pt)) hpo.out.2.2.1 hpo.out.2.2.2 (by have := hpo.out.2.1; simp only at this; omega) (fun x hx => hT.out x (hBY.out.trans (hx.mono hBY.out.size)))
        have hgv : Hid (ts.getD k ⟨#[]⟩ = vtx pvk pvn pvt) := hgk.out
        generalize vtx pvk pvn pvt = V at *
        clear hgk hpo
        go_wp2_with fail
        refine hpr.mono ?_
        rintro e w2 ⟨⟨c5, rfl⟩, hB2⟩
        have hown2 := hidden (owns_keep hst.out hB2)
        have hBL : Hid (Below w.heap.size w w2) := hBY.out.trans (hB2.mono hBY.out.size)
        clear hpr hB2 hst hBY b0 b1 b2 b3 b4 b5 y0 y1 y2 y3 y4 y5 hfr hcs1 hY
        obtain ⟨u2, hcs2⟩ : ∃ u, w2.cell? ⟨w.heap.size, k, none⟩ = some u := ⟨_, by rw [hown2.out.cellAt k (by omega)]; exact List.getElem?_eq_getElem (by rw [List.length_set, trow_len _ _ (by rw [htl.out]; omega), htl.out]; exact hlt)⟩
        have hfr2 : w2.frozen? ⟨w.heap.size, k, none⟩ = false := hown2.out.frozenAt k
        have hst2 := (hown2.out.stored k (.string V)).1
        rw [← hgv.out, trow_set2 ts k (by rw [htl.out]; exact hlt), hgv.out] at hst2
        replace hst2 := hidden hst2
        clear hown2
        go_wp2
        go_roundw
        case rel => exact ⟨k + 1, by omega, by go_num, hst2, hBL.out.setCell (Nat.le_refl _) _⟩
        case measure => simp [intOf]; omega
      · have g3 : (pk == 3) = false := by simpa using h3
        have hgv : Hid (ts.getD k ⟨#[]⟩ = pt) := hgk.out.trans (if_neg h3)
        replace hst := hst.out
        rw [← hgv.out, trow_set ts k (by rw [htl.out]; exact hlt), hgv.out] at hst
        replace hst := hidden hst
        clear hgk hpo
        go_wp2
        go_roundw
        case rel => exact ⟨k + 1, by omega, by go_num, hst, hBY⟩
        case measure => simp [intOf]; omega
    · obtain rfl : k = ps.length := by omega
      have hf : wr.ownsRow w.heap.size 9 1 (.slice (some ⟨w.heap.size, 0, none⟩) ps.length ps.length) ps.length (ts.map Value.string) := by
        rw [← trow_full, htl.out]; exact hown.out
      have hcells := fun (j : Nat) x (hj : ts[j]? = some x) => trow_cells hf j x hj
      have hjoin : Calls Tryd.prog 14 #[.slice (some ⟨w.heap.size, 0, none⟩) ps.length ps.length, .string ⟨#[32]⟩] wr fun e w' => e = .returned (.string (jn ts)) ∧ Below wr.heap.size wr w' := by
        by_cases h0 : ps.length = 0
        · have e : jn ts = ⟨#[]⟩ := by rw [List.eq_nil_of_length_eq_zero (htl.out.trans h0)]; rfl
          rw [h0, e]
          exact (Tryd.strings_Join_none _ _ _ wr).mono fun e w' ⟨he, hw⟩ => ⟨he, by rw [hw]; exact Below.refl _ _⟩
        · have h := Tryd.strings_Join w.heap.size 0 ps.length ts ⟨#[32]⟩ wr hcells (by
            rcases hown.out.2 with ⟨h, _⟩ | ⟨g, _, _, h, _, h3, _⟩
            · cases h
            · simp only [Value.slice.injEq, Option.some.injEq, Addr.mk.injEq] at h
              rw [← h.1.1] at h3
              exact (Array.getElem?_eq_some_iff.1 h3).1) (by rw [htl.out]; omega) (by rw [htl.out]; omega) (by
            have h5 := hbig.out
            have e5 : (jn ts).size = (Lib.join (ts.map (·.data.toList)) [32]).length := by simp [jn, ByteArray.size]
            show (Lib.join (ts.map (·.data.toList)) [32]).length ≤ _
            omega)
          rw [htl.out] at h
          exact h
      obtain ⟨T, hT5⟩ : ∃ T, Hid (T = jn ts) := ⟨_, (rfl : _ = _)⟩
      rw [← hT5.out] at hjoin
      clear hcells hown hf
      go_wp2_with fail
      refine hjoin.mono ?_
      rintro e w2 ⟨rfl, hB2⟩
      have hfin : Hid (Below w.heap.size w w2) := hnx.out.trans (hB2.mono hnx.out.size)
      clear hB2 hjoin
      go_wp2
      go_ret
      exact ⟨by rw [← hT5.out]; rfl, hfin.out⟩
end Go.Proofs.YtddmdieeljjamaaDoor
/-
  WORDS PRINTED: the reference's, by contract.
-/
namespace Go.Proofs.YtddmdieeljjamaaDoor
open Go.ChangeShapes Go.WideShapes Go.ChangeAt Go.RowKit

theorem app_nilB (s : ByteArray) : s ++ ⟨#[]⟩ = s := ByteArray.append_empty
set_option maxHeartbeats 6400000 in
set_option maxRecDepth 100000 in
theorem lrprint_c (v : Value) (ps : List Wd) (w : World) (hv : SlR wordR w v ps) (hz : ps.length ≤ 200) (hok : ∀ x ∈ ps, x.ok) :
    Calls Tryd.prog 9 #[v] w fun e w' => e = .returned (.string (jn (ps.map wtx))) ∧ Below w.heap.size w w' := by
  obtain ⟨a, cap, rfl, -, -, -, hrow⟩ := hv
  replace hrow := hidden hrow
  replace hok := hidden hok
  obtain ⟨ts, hts⟩ : ∃ ts, ts = ps.map wtx := ⟨_, rfl⟩
  have htl : Hid (ts.length = ps.length) := by show _ = _; rw [hts, List.length_map]
  have htok : Hid (∀ t ∈ ts, t.size ≤ 202) := fun t ht => by
    rw [hts] at ht
    obtain ⟨x, hx, rfl⟩ := List.mem_map.1 ht
    exact wtx_size (hok.out x hx)
  have hget : Hid (∀ k, k < ps.length → ts.getD k ⟨#[]⟩ = wtx (ps.getD k Wd.none)) := fun k hk => by
    rw [hts]; simp [List.getD, hk]
  rw [← hts]
  replace hts := hidden hts
  go_enter Tryd.func9, Tryd.ntmps9
  go_wp2
  go_loopw [3, 4] (fun s i wr => ∃ k : Nat, k ≤ ps.length ∧ i = .int .i64 k ∧ s = .string (jn (ts.take k)) ∧ Hid (Below w.heap.size w wr))
    (fun _ i _ => ps.length - (intOf i).toNat)
  case atStart => exact ⟨0, Nat.zero_le _, rfl, rfl, Below.refl _ _⟩
  case round =>
    obtain ⟨k, hk, rfl, rfl, hnx⟩ := hrel
    by_cases hlt : k < ps.length
    · obtain ⟨b, off, rfl, hb, hc1, hc2, hc3, hc4, hc5, hc6⟩ := word_at hrow.out hlt
      have hx1 := (hnx.out.cell (p := ⟨b, off + k * 6, none⟩) (by exact hb)).trans hc1
      have hx2 := (hnx.out.cell (p := ⟨b, off + k * 6 + 1, none⟩) (by exact hb)).trans hc2
      have hx3 := (hnx.out.cell (p := ⟨b, off + k * 6 + 2, none⟩) (by exact hb)).trans hc3
      have hx4 := (hnx.out.cell (p := ⟨b, off + k * 6 + 3, none⟩) (by exact hb)).trans hc4
      have hx5 := (hnx.out.cell (p := ⟨b, off + k * 6 + 4, none⟩) (by exact hb)).trans hc5
      have hx6 := (hnx.out.cell (p := ⟨b, off + k * 6 + 5, none⟩) (by exact hb)).trans hc6
      have hpo : Hid ((ps.getD k Wd.none).ok) := by
        have e : ps.getD k Wd.none = ps[k] := by simp [List.getD, hlt]
        show Wd.ok _
        rw [e]; exact hok.out _ (List.getElem_mem _)
      have hV := hidden (hget.out k hlt)
      have hVs : (ts.getD k ⟨#[]⟩).size ≤ 202 := by rw [hV.out]; exact wtx_size hpo.out
      have htk := take_snocR ts ⟨#[]⟩ k (by rw [htl.out]; exact hlt)
      have hAs : (jn (ts.take k)).size ≤ 40600 := by
        have h := jn_size 202 (ts.take k) (fun t ht => htok.out t (List.mem_of_mem_take ht))
        have : (ts.take k).length * (202 + 1) ≤ 200 * 203 := Nat.mul_le_mul_right _ (by rw [List.length_take]; omega)
        omega
      clear hc1 hc2 hc3 hc4 hc5 hc6 hget hok htok
      generalize ps.getD k Wd.none = p at *
      obtain ⟨pk, pt, pvk, pvn, pvt, pp⟩ := p
      simp only at hx1 hx2 hx3 hx4 hx5 hx6
      have e32 : (⟨#[32]⟩ : ByteArray).size = 1 := rfl
      replace hrow := hidden hrow
      by_cases hk0 : k = 0
      · subst hk0
        simp only [Nat.zero_mul, Nat.add_zero] at hx1 hx2 hx3 hx4 hx5 hx6
        have hstep : Hid (jn (ts.take (0 + 1)) = jn (ts.take 0) ++ ts.getD 0 ⟨#[]⟩) := by
          show _ = _
          rw [htk, List.take_zero, List.nil_append, jn_one, jn_nil]
          exact ByteArray.empty_append.symm
        clear htk
        generalize ts.getD 0 ⟨#[]⟩ = V0 at *
        have hov : ¬ 9223372036854775807 < (jn (ts.take 0)).size + V0.size := by omega
        have hov2 : V0.size ≤ 202 := hVs
        have hA0 : Hid (jn (ts.take 0) = ⟨#[]⟩) := hidden rfl
        generalize jn (ts.take 0) = A at *
        by_cases h3 : pk = 3
        · subst h3
          have hgd := fun x => rgood_c pvk pvn pvt x (by have := hpo.out.2.1; simp only at this; omega)
          cases hG : goodV pvk pvn pvt with
          | false =>
            have hnx2 : Hid (.string (jn (ts.take (0 + 1))) = Value.string A) := by
              have e : V0 = ⟨#[]⟩ := by rw [hV.out]; show vtx pvk pvn pvt = _; exact if_neg (by rw [hG]; simp)
              show _ = _
              rw [hstep.out, e, app_nilB]
            rw [hG] at hgd
            replace hG := hidden hG
            go_wp2_with fail
            refine (hgd _).mono ?_
            rintro e w2 ⟨rfl, hB2⟩
            have hBL : Hid (Below w.heap.size w w2) := hnx.out.trans (hB2.mono hnx.out.size)
            clear hB2 hgd hx1 hx2 hx3 hx4 hx5 hx6
            go_wp2
            go_roundw
            case rel => exact ⟨1, by omega, by go_num, by rw [hnx2.out], hBL⟩
            case measure => simp [intOf]; omega
          | true =>
            rw [hG] at hgd
            by_cases h0 : 0 < pvk
            · have hpr := fun x => rvprint_c pvk pvn pvt x hG (by omega) (by have := hpo.out.2.1; simp only at this; omega)
              have hVe : V0 = vtx pvk pvn pvt := hV.out
              rw [← hVe] at hpr
              clear hVe
              replace hG := hidden hG
              go_wp2_with fail
              refine (hgd _).mono ?_
              rintro e w2 ⟨rfl, hB2⟩
              have hBL : Hid (Below w.heap.size w w2) := hnx.out.trans (hB2.mono hnx.out.size)
              have z1 := (hB2.cell (World.block_lt_of_cell? _ _ hx1)).trans hx1
              have z3 := (hB2.cell (World.block_lt_of_cell? _ _ hx3)).trans hx3
              have z4 := (hB2.cell (World.block_lt_of_cell? _ _ hx4)).trans hx4
              have z5 := (hB2.cell (World.block_lt_of_cell? _ _ hx5)).trans hx5
              clear hB2 hgd hx1 hx2 hx3 hx4 hx5 hx6
              go_wp2_with fail
              refine (hpr _).mono ?_
              rintro e w3 ⟨rfl, hB3⟩
              have hBM : Hid (Below w.heap.size w w3) := hBL.out.trans (hB3.mono hBL.out.size)
              clear hB3 hpr z1 z3 z4 z5 hBL
              go_wp2
              go_roundw
              case rel => exact ⟨1, by omega, by go_num, by rw [hstep.out], hBM⟩
              case measure => simp [intOf]; omega
            · have hnx2 : Hid (.string (jn (ts.take (0 + 1))) = Value.string A) := by
                have e : V0 = ⟨#[]⟩ := by
                  rw [hV.out]; show vtx pvk pvn pvt = _
                  refine if_neg fun h => ?_
                  rcases good_kind hG with h5 | ⟨h5, _⟩ | ⟨h5, _⟩
                  · exact h.2 h5
                  · omega
                  · omega
                show _ = _
                rw [hstep.out, e, app_nilB]
              replace hG := hidden hG
              go_wp2_with fail
              refine (hgd _).mono ?_
              rintro e w2 ⟨rfl, hB2⟩
              have hBL : Hid (Below w.heap.size w w2) := hnx.out.trans (hB2.mono hnx.out.size)
              have z3 := (hB2.cell (World.block_lt_of_cell? _ _ hx3)).trans hx3
              clear hB2 hgd hx1 hx2 hx3 hx4 hx5 hx6
              go_wp2
              go_roundw
              case rel => exact ⟨1, by omega, by go_num, by rw [hnx2.out], hBL⟩
              case measure => simp [intOf]; omega
        · have g3 : (pk == 3) = false := by simpa using h3
          have e0 : V0 = pt := hV.out.trans (if_neg h3)
          rw [e0] at hov
          rw [e0] at hov2
          replace hstep := hstep.out
          rw [e0] at hstep
          replace hstep := hidden hstep
          clear hV e0
          go_wp2
          go_roundw
          case rel => exact ⟨1, by omega, by go_num, by rw [hstep.out], hnx⟩
          case measure => simp [intOf]; omega
      · have hki : (0 : Int) < (k : Int) := by omega
        have hstep : Hid (jn (ts.take (k + 1)) = (jn (ts.take k) ++ ⟨#[32]⟩) ++ ts.getD k ⟨#[]⟩) := by
          show _ = _
          rw [htk, jn_snoc]
          intro h
          have := congrArg List.length h
          rw [List.length_take, htl.out] at this
          simp only [List.length_nil] at this; omega
        clear htk
        generalize ts.getD k ⟨#[]⟩ = V0 at *
        have hov0 : ¬ 9223372036854775807 < (jn (ts.take k)).size + (⟨#[32]⟩ : ByteArray).size := by rw [e32]; omega
        have hov : ¬ 9223372036854775807 < (jn (ts.take k) ++ ⟨#[32]⟩).size + V0.size := by rw [ByteArray.size_append, e32]; clear hov0; omega
        have hov2 : V0.size ≤ 202 := hVs
        generalize jn (ts.take k) = A at *
        by_cases h3 : pk = 3
        · subst h3
          have hgd := fun x => rgood_c pvk pvn pvt x (by have := hpo.out.2.1; simp only at this; omega)
          cases hG : goodV pvk pvn pvt with
          | false =>
            have hnx2 : Hid (.string (jn (ts.take (k + 1))) = Value.string (A ++ ⟨#[32]⟩)) := by
              have e : V0 = ⟨#[]⟩ := by rw [hV.out]; show vtx pvk pvn pvt = _; exact if_neg (by rw [hG]; simp)
              show _ = _
              rw [hstep.out, e, app_nilB]
            rw [hG] at hgd
            replace hG := hidden hG
            go_wp2_with fail
            refine (hgd _).mono ?_
            rintro e w2 ⟨rfl, hB2⟩
            have hBL : Hid (Below w.heap.size w w2) := hnx.out.trans (hB2.mono hnx.out.size)
            clear hB2 hgd hx1 hx2 hx3 hx4 hx5 hx6
            go_wp2
            go_roundw
            case rel => exact ⟨k + 1, by omega, by go_num, by rw [hnx2.out], hBL⟩
            case measure => simp [intOf]; omega
          | true =>
            rw [hG] at hgd
            by_cases h0 : 0 < pvk
            · have hpr := fun x => rvprint_c pvk pvn pvt x hG (by omega) (by have := hpo.out.2.1; simp only at this; omega)
              have hVe : V0 = vtx pvk pvn pvt := hV.out
              rw [← hVe] at hpr
              clear hVe
              replace hG := hidden hG
              go_wp2_with fail
              refine (hgd _).mono ?_
              rintro e w2 ⟨rfl, hB2⟩
              have hBL : Hid (Below w.heap.size w w2) := hnx.out.trans (hB2.mono hnx.out.size)
              have z1 := (hB2.cell (World.block_lt_of_cell? _ _ hx1)).trans hx1
              have z3 := (hB2.cell (World.block_lt_of_cell? _ _ hx3)).trans hx3
              have z4 := (hB2.cell (World.block_lt_of_cell? _ _ hx4)).trans hx4
              have z5 := (hB2.cell (World.block_lt_of_cell? _ _ hx5)).trans hx5
              clear hB2 hgd hx1 hx2 hx3 hx4 hx5 hx6
              go_wp2_with fail
              refine (hpr _).mono ?_
              rintro e w3 ⟨rfl, hB3⟩
              have hBM : Hid (Below w.heap.size w w3) := hBL.out.trans (hB3.mono hBL.out.size)
              clear hB3 hpr z1 z3 z4 z5 hBL
              go_wp2
              go_roundw
              case rel => exact ⟨k + 1, by omega, by go_num, by rw [hstep.out], hBM⟩
              case measure => simp [intOf]; omega
            · have hnx2 : Hid (.string (jn (ts.take (k + 1))) = Value.string (A ++ ⟨#[32]⟩)) := by
                have e : V0 = ⟨#[]⟩ := by
                  rw [hV.out]; show vtx pvk pvn pvt = _
                  refine if_neg fun h => ?_
                  rcases good_kind hG with h5 | ⟨h5, _⟩ | ⟨h5, _⟩
                  · exact h.2 h5
                  · omega
                  · omega
                show _ = _
                rw [hstep.out, e, app_nilB]
              replace hG := hidden hG
              go_wp2_with fail
              refine (hgd _).mono ?_
              rintro e w2 ⟨rfl, hB2⟩
              have hBL : Hid (Below w.heap.size w w2) := hnx.out.trans (hB2.mono hnx.out.size)
              have z3 := (hB2.cell (World.block_lt_of_cell? _ _ hx3)).trans hx3
              clear hB2 hgd hx1 hx2 hx3 hx4 hx5 hx6
              go_wp2
              go_roundw
              case rel => exact ⟨k + 1, by omega, by go_num, by rw [hnx2.out], hBL⟩
              case measure => simp [intOf]; omega
        · have g3 : (pk == 3) = false := by simpa using h3
          have e0 : V0 = pt := hV.out.trans (if_neg h3)
          rw [e0] at hov
          rw [e0] at hov2
          replace hstep := hstep.out
          rw [e0] at hstep
          replace hstep := hidden hstep
          clear hV e0
          go_wp2
          go_roundw
          case rel => exact ⟨k + 1, by omega, by go_num, by rw [hstep.out], hnx⟩
          case measure => simp [intOf]; omega
    · obtain rfl : k = ps.length := by omega
      have hall : Hid (ts.take ps.length = ts) := List.take_of_length_le (by rw [htl.out]; exact Nat.le_refl _)
      go_wp2
      go_ret
      exact ⟨by rw [hall.out]; rfl, hnx.out⟩
end Go.Proofs.YtddmdieeljjamaaDoor
