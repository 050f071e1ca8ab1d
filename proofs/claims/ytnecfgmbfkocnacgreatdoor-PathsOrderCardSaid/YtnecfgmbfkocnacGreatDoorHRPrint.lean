/-
  TEXTS JOINED BY A BLANK; a row of texts that is filled. No function is named here.
-/
import Derived.Test.YtnecfgmbfkocnacGreatDoorGCmp
import Derived.Lib.Join
import Derived.Test.YtnecfgmbfkocnacGreatDoorHOrd
import Derived.Test.YtnecfgmbfkocnacGreatDoorShelf
import Derived.Lib.AppendIntMem
import Derived.Lib.ItoaNum
namespace Go.Proofs.YtnecfgmbfkocnacGreatDoor
open Go.ChangeShapes Go.WideShapes Go.ChangeAt Go.RowKit

/-- Texts joined by a blank. -/
def jn (ts : List ByteArray) : ByteArray := ⟨(Lib.join (ts.map (·.data.toList)) [32]).toArray⟩
theorem jn_nil : jn [] = ⟨#[]⟩ := rfl
theorem jn_one (t : ByteArray) : jn [t] = t := by
  apply ByteArray.ext
  simp [jn, Lib.join_one]
theorem jn_snoc (ts : List ByteArray) (t : ByteArray) (h : ts ≠ []) : jn (ts ++ [t]) = (jn ts ++ ⟨#[32]⟩) ++ t := by
  obtain ⟨x, r, rfl⟩ := List.exists_cons_of_ne_nil h
  apply ByteArray.ext
  apply Array.ext'
  simp [jn, Lib.join_cons, Lib.joinTail]
theorem jn_size (m : Nat) : ∀ ts : List ByteArray, (∀ t ∈ ts, t.size ≤ m) → (jn ts).size ≤ ts.length * (m + 1)
  | [], _ => Nat.zero_le _
  | [t], h => by
    rw [jn_one]
    have := h t (by simp)
    simp; omega
  | t :: s :: r, h => by
    have ih := jn_size m (s :: r) (fun x hx => h x (by simp at hx ⊢; right; exact hx))
    have ht := h t (by simp)
    have e : (jn (t :: s :: r)).size = t.size + (1 + (jn (s :: r)).size) := by
      simp only [jn, ByteArray.size, List.map_cons, List.size_toArray]
      simp only [Lib.join_cons, Lib.joinTail, List.map_cons, List.flatten_cons, List.length_append, List.length_cons, List.length_nil, Array.length_toList]
      omega
    rw [e]
    simp only [List.length_cons] at ih ⊢
    rw [show (r.length + 1 + 1) * (m + 1) = (r.length + 1) * (m + 1) + (m + 1) by rw [Nat.add_mul (r.length + 1), Nat.one_mul]]
    omega
/-- A row of texts, the first k of them told. -/
def trow (ts : List ByteArray) (k : Nat) : List Value := (ts.take k).map Value.string ++ List.replicate (ts.length - k) (.string ⟨#[]⟩)
theorem trow_len (ts : List ByteArray) (k : Nat) (hk : k ≤ ts.length) : (trow ts k).length = ts.length := by
  simp [trow, List.length_take]; omega
theorem trow_zero (ts : List ByteArray) : trow ts 0 = List.replicate ts.length (.string ⟨#[]⟩) := by simp [trow]
theorem trow_full (ts : List ByteArray) : trow ts ts.length = ts.map Value.string := by simp [trow]
theorem trow_set (ts : List ByteArray) (k : Nat) (hk : k < ts.length) : (trow ts k).set k (.string (ts.getD k ⟨#[]⟩)) = trow ts (k + 1) := by
  apply List.ext_getElem?
  intro j
  rw [List.getElem?_set]
  have hl := trow_len ts k (by omega)
  by_cases hj : k = j
  · subst hj
    rw [if_pos rfl, if_pos (by rw [hl]; exact hk)]
    unfold trow
    rw [List.getElem?_append_left (by simp [List.length_take]; omega)]
    simp [List.getD, hk]
  · rw [if_neg hj]
    unfold trow
    by_cases hlt : j < k
    · rw [List.getElem?_append_left (by simp [List.length_take]; omega), List.getElem?_append_left (by simp [List.length_take]; omega)]
      simp [hlt, show j < k + 1 by omega]
    · rw [List.getElem?_append_right (by simp [List.length_take]; omega), List.getElem?_append_right (by simp [List.length_take]; omega)]
      simp only [List.length_map, List.length_take, List.getElem?_replicate]
      rw [Nat.min_eq_left (by omega), Nat.min_eq_left (by omega)]
      by_cases h2 : j < ts.length
      · rw [if_pos (by omega), if_pos (by omega)]
      · rw [if_neg (by omega), if_neg (by omega)]
theorem trow_set2 (ts : List ByteArray) (k : Nat) (hk : k < ts.length) (x : Value) : ((trow ts k).set k x).set k (.string (ts.getD k ⟨#[]⟩)) = trow ts (k + 1) := by
  rw [List.set_set, trow_set ts k hk]
theorem trow_cells {w : World} {B g n c : Nat} {e : TypeId} {ts : List ByteArray} (h : w.ownsRow B e 1 (.slice (some ⟨g, 0, none⟩) n c) n (ts.map Value.string)) : ∀ (j : Nat) x, ts[j]? = some x → w.cell? ⟨g, 0 + j, none⟩ = some (.string x) := fun j x hj => by
  rcases h.2 with ⟨h1, _⟩ | ⟨g', cap, cur, h1, _, h3, _, _, _, h7⟩
  · cases h1
  · simp only [Value.slice.injEq, Option.some.injEq, Addr.mk.injEq] at h1
    obtain ⟨⟨rfl, _⟩, _, _⟩ := h1
    have hl := h.1
    rw [List.length_map, Nat.mul_one] at hl
    have hlt := (List.getElem?_eq_some_iff.1 hj).1
    have h2 : (ts.map Value.string)[j]? = some (.string x) := by simp [hj]
    rw [← h7, List.getElem?_take, if_pos (by omega)] at h2
    simp only [World.cell?, h3, Nat.zero_add]
    simpa using h2
end Go.Proofs.YtnecfgmbfkocnacGreatDoor
/-
  HOPS PRINTED: the program's, by contract.
-/
namespace Go.Proofs.YtnecfgmbfkocnacGreatDoor
open Go.ChangeShapes Go.WideShapes Go.ChangeAt Go.RowKit

def tx (l : List UInt8) : ByteArray := ⟨l.toArray⟩
theorem tx_size (l : List UInt8) : (tx l).size = l.length := by simp [tx, ByteArray.size]
theorem tx_app (l m : List UInt8) : tx l ++ tx m = tx (l ++ m) := by
  apply ByteArray.ext
  simp [tx]
theorem dec_len : ∀ (k u : Nat), u < 10 ^ (k + 1) → (Lib.decDigits u).length ≤ k + 1
  | 0, u, h => by
    rw [Lib.decDigits, dif_pos (by simpa using h)]; simp
  | k + 1, u, h => by
    by_cases h0 : u < 10
    · rw [Lib.decDigits, dif_pos h0]; simp
    · rw [Lib.decDigits, dif_neg h0]
      have := dec_len k (u / 10) (by rw [Nat.pow_succ] at h; omega)
      simp; omega
theorem dec_len20 (u : Nat) (h : u < 18446744073709551616) : (Lib.decDigits u).length ≤ 20 := dec_len 19 u (by omega)
theorem itoa_len (n : Int) (h1 : -9223372036854775808 ≤ n) (h2 : n ≤ 9223372036854775807) : (Lib.itoa n).length ≤ 21 := by
  unfold Lib.itoa
  split
  · have := dec_len20 n.natAbs (by omega)
    simp; omega
  · have := dec_len20 n.toNat (by omega)
    omega
/-- A hop's text. -/
def htx (p : Hop) : ByteArray := (if p.2 then ⟨#[45]⟩ else ⟨#[43]⟩ : ByteArray) ++ tx (Lib.itoa p.1)
def Hop.ok (p : Hop) : Prop := -9223372036854775808 ≤ p.1 ∧ p.1 ≤ 9223372036854775807
theorem htx_size {p : Hop} (h : p.ok) : (htx p).size ≤ 22 := by
  have := itoa_len p.1 h.1 h.2
  unfold htx
  rw [ByteArray.size_append, tx_size]
  have e1 : (⟨#[45]⟩ : ByteArray).size = 1 := rfl
  have e2 : (⟨#[43]⟩ : ByteArray).size = 1 := rfl
  split <;> omega
theorem infoS1 : (Tryz.prog.info? 9).map (fun i => (i.zero, i.size, i.bytes)) = some (some (.string ⟨#[]⟩), 1, 16) := by kernel_rfl
theorem set_othL {x : World} {b c : Nat} {o : Obj} (h : x.heap[c]? = some o) (hne : b ≠ c) (j : Nat) (v : Value) : (x.setCell ⟨b, j, none⟩ v).heap[c]? = some o := by
  rw [← h]
  simp [World.setCell, Array.getElem?_modify, hne]
theorem owns_keep2 {w w' : World} {base : Nat} {e : TypeId} {size : Nat} {v : Value} {n : Nat} {xs : List Value} (h : w.ownsRow base e size v n xs) (hb : Below w.heap.size w w') : w'.ownsRow base e size v n xs := owns_keep h hb
set_option maxHeartbeats 3200000 in
set_option maxRecDepth 100000 in
theorem hprint_c (v : Value) (ps : List Hop) (w : World) (hv : SlR hopR w v ps) (hz : ps.length ≤ 8) (hok : ∀ x ∈ ps, Hop.ok x)
    (hT : ∀ x, Below w.heap.size w x → Lib.TabIs Tryz.prog x "internal/strconv.uint64pow10" .u64 Lib.pow10Tab) :
    Calls Tryz.prog 7 #[v] w fun e w' => e = .returned (.string (jn (ps.map htx))) ∧ Below w.heap.size w w' := by
  obtain ⟨a, cap, rfl, -, -, -, hrow⟩ := hv
  obtain ⟨i0, hi, hz0, hz1, hz2⟩ := info_parts infoS1
  replace hrow := hidden hrow
  replace hok := hidden hok
  replace hT := hidden hT
  obtain ⟨ts, hts⟩ : ∃ ts, ts = ps.map htx := ⟨_, rfl⟩
  have htl : Hid (ts.length = ps.length) := by show _ = _; rw [hts, List.length_map]
  have hbig : Hid ((jn ts).size ≤ 200) := by
    show _ ≤ _
    have h := jn_size 22 ts (fun t ht => by
      rw [hts] at ht
      obtain ⟨x, hx, rfl⟩ := List.mem_map.1 ht
      exact htx_size (hok.out x hx))
    rw [htl.out] at h
    have : ps.length * (22 + 1) ≤ 8 * 23 := Nat.mul_le_mul_right _ hz
    omega
  have hget : Hid (∀ k, k < ps.length → ts.getD k ⟨#[]⟩ = htx (ps.getD k (0, false))) := fun k hk => by
    rw [hts]; simp [List.getD, hk]
  rw [← hts]
  replace hts := hidden hts
  go_enter Tryz.func7, Tryz.ntmps7
  go_wp2_with (refine wpList_make_full _ rfl _ _ 34 rfl w.heap.size 9 i0 (.string ⟨#[]⟩) 1 Tryz.underlying34 hi hz0 hz1 .i64 .i64 _ _ ps.length rfl rfl ?d1 ?d2 ?d3 ?d4 ?d5 ?_)
  case d1 => rfl
  case d2 => rfl
  case d3 => rw [hz2]; omega
  case d4 => unfold maxLen; omega
  case d5 => omega
  intro w0 hown0 hgrow0
  have hB0 : Hid (Below w.heap.size w w0) := (Below.refl _ _).grown hgrow0 (Nat.le_refl _) (fun j hj => by cases hj)
  have hown1 : Hid (w0.ownsRow w.heap.size 9 1 (.slice (some ⟨w.heap.size, 0, none⟩) ps.length ps.length) ps.length (trow ts 0)) := by
    show World.ownsRow _ _ _ _ _ _ _
    rw [trow_zero, htl.out]
    simpa [madeCells, Value.cells, Nat.mod_one, List.map_const'] using hown0
  clear hown0 hgrow0
  go_wp2
  go_loopw [11] (fun i wr => ∃ k : Nat, k ≤ ps.length ∧ i = .int .i64 k ∧ Hid (wr.ownsRow w.heap.size 9 1 (.slice (some ⟨w.heap.size, 0, none⟩) ps.length ps.length) ps.length (trow ts k)) ∧ Hid (Below w.heap.size w wr))
    (fun i _ => ps.length - (intOf i).toNat)
  case atStart => exact ⟨0, Nat.zero_le _, rfl, hown1, hB0⟩
  case round =>
    clear hB0 hown1
    obtain ⟨k, hk, rfl, hown, hnx⟩ := hrel
    by_cases hlt : k < ps.length
    · obtain ⟨b, off, rfl, hb, hc1, hc2⟩ := hop_at hrow.out hlt
      have hx1 := (hnx.out.cell (p := ⟨b, off + k * 2, none⟩) (by exact hb)).trans hc1
      have hx2 := (hnx.out.cell (p := ⟨b, off + k * 2 + 1, none⟩) (by exact hb)).trans hc2
      have hpo : Hid (Hop.ok (ps.getD k (0, false))) := by
        have e : ps.getD k (0, false) = ps[k] := by simp [List.getD, hlt]
        show Hop.ok _
        rw [e]; exact hok.out _ (List.getElem_mem _)
      have hgk := hidden (hget.out k hlt)
      clear hc1 hc2
      generalize ps.getD k (0, false) = p at *
      obtain ⟨pe, pb⟩ := p
      simp only at hx1 hx2
      have hlt0 : w.heap.size < wr.heap.size := by
        rcases hown.out.2 with ⟨h, _⟩ | ⟨g, _, _, h, _, h3, _⟩
        · cases h
        · simp only [Value.slice.injEq, Option.some.injEq, Addr.mk.injEq] at h
          rw [← h.1.1] at h3
          exact (Array.getElem?_eq_some_iff.1 h3).1
      have hne : w.heap.size ≠ wr.heap.size := by omega
      replace hlt0 := hidden hlt0
      have hX := hidden (heap_alloc_new wr (.cells #[.int .i64 pe, .bool pb] 30))
      obtain ⟨⟨b0, b1⟩, -⟩ := box2f hX.out
      have hownA := hidden (hown.out.alloc (.cells #[.int .i64 pe, .bool pb] 30))
      have hBA : Hid (Below w.heap.size w (wr.alloc (.cells #[.int .i64 pe, .bool pb] 30))) := hnx.out.alloc (Nat.le_of_lt hlt0.out) _
      have hit := fun x (h : Below w.heap.size w x) => Tryz.strconv_Itoa pe hpo.out.1 hpo.out.2 x (hT.out x h)
      have hI : (tx (Lib.itoa pe)).size ≤ 21 := by rw [tx_size]; exact itoa_len _ hpo.out.1 hpo.out.2
      have hV : Hid (ts.getD k ⟨#[]⟩ = (if pb then ⟨#[45]⟩ else ⟨#[43]⟩ : ByteArray) ++ tx (Lib.itoa pe)) := hgk.out
      replace hit : ∀ x, Below w.heap.size w x → Calls Tryz.prog 13 #[.int .i64 pe] x fun e w' => e = .returned (.string (tx (Lib.itoa pe))) ∧ Below x.heap.size x w' := fun x h => (hit x h).mono fun e w' ⟨he, k, os, hw⟩ => ⟨he, by rw [hw]; exact Go.Lib.below_grow _ _ (Nat.le_refl _) k os⟩
      generalize tx (Lib.itoa pe) = I at *
      have e45 : (⟨#[45]⟩ : ByteArray).size = 1 := rfl
      have e43 : (⟨#[43]⟩ : ByteArray).size = 1 := rfl
      have ho1 : ¬ 9223372036854775807 < (⟨#[45]⟩ : ByteArray).size + I.size := by rw [e45]; omega
      have ho2 : ¬ 9223372036854775807 < (⟨#[43]⟩ : ByteArray).size + I.size := by rw [e43]; omega
      have hit1 := hit _ hBA.out
      clear hrow hget hok hgk hpo hT
      go_wp2_with fail
      refine hit1.mono ?_
      rintro e w2 ⟨rfl, hB2⟩
      have hX2 := hidden ((hB2.block _ (Array.getElem?_eq_some_iff.1 hX.out).1).trans hX.out)
      have hown2 := hidden (owns_keep hownA.out hB2)
      have hBL : Hid (Below w.heap.size w w2) := hBA.out.trans (hB2.mono hBA.out.size)
      clear hit1 hB2 hX hownA hBA hown b0 b1 hx1 hx2 hnx
      obtain ⟨⟨b0, b1⟩, -⟩ := box2f hX2.out
      obtain ⟨u1, hcs1⟩ : ∃ u, w2.cell? ⟨w.heap.size, k, none⟩ = some u := ⟨_, by rw [hown2.out.cellAt k (by omega)]; exact List.getElem?_eq_getElem (by rw [trow_len _ _ (by rw [htl.out]; omega), htl.out]; exact hlt)⟩
      have hfr : w2.frozen? ⟨w.heap.size, k, none⟩ = false := hown2.out.frozenAt k
      have hY := hidden (set_othL hX2.out hne k (.string ((⟨#[43]⟩ : ByteArray) ++ I)))
      obtain ⟨⟨y0, y1⟩, -⟩ := box2f hY.out
      have hst := hidden (hown2.out.stored k (.string ((⟨#[43]⟩ : ByteArray) ++ I))).1
      have hBY : Hid (Below w.heap.size w (w2.setCell ⟨w.heap.size, k, none⟩ (.string ((⟨#[43]⟩ : ByteArray) ++ I)))) := hBL.out.setCell (Nat.le_refl _) _
      have hit2 := hit _ hBY.out
      clear hit hY hBL hown2
      cases pb with
      | true =>
        have hgv : Hid (ts.getD k ⟨#[]⟩ = (⟨#[45]⟩ : ByteArray) ++ I) := hV.out
        clear hV
        go_wp2_with fail
        refine hit2.mono ?_
        rintro e w3 ⟨rfl, hB3⟩
        have hown3 := hidden (owns_keep hst.out hB3)
        have hBM : Hid (Below w.heap.size w w3) := hBY.out.trans (hB3.mono hBY.out.size)
        clear hit2 hB3 hst hBY b0 b1 y0 y1 hfr hcs1
        obtain ⟨u2, hcs2⟩ : ∃ u, w3.cell? ⟨w.heap.size, k, none⟩ = some u := ⟨_, by rw [hown3.out.cellAt k (by omega)]; exact List.getElem?_eq_getElem (by rw [List.length_set, trow_len _ _ (by rw [htl.out]; omega), htl.out]; exact hlt)⟩
        have hfr2 : w3.frozen? ⟨w.heap.size, k, none⟩ = false := hown3.out.frozenAt k
        have hst2 := (hown3.out.stored k (.string ((⟨#[45]⟩ : ByteArray) ++ I))).1
        rw [← hgv.out, trow_set2 ts k (by rw [htl.out]; exact hlt), hgv.out] at hst2
        replace hst2 := hidden hst2
        clear hown3
        go_wp2
        go_roundw
        case rel => exact ⟨k + 1, by omega, by go_num, hst2, hBM.out.setCell (Nat.le_refl _) _⟩
        case measure => simp [intOf]; omega
      | false =>
        have hgv : Hid (ts.getD k ⟨#[]⟩ = (⟨#[43]⟩ : ByteArray) ++ I) := hV.out
        replace hst := hst.out
        rw [← hgv.out, trow_set ts k (by rw [htl.out]; exact hlt), hgv.out] at hst
        replace hst := hidden hst
        clear hV hit2
        go_wp2
        go_roundw
        case rel => exact ⟨k + 1, by omega, by go_num, hst, hBY⟩
        case measure => simp [intOf]; omega
    · obtain rfl : k = ps.length := by omega
      have hf : wr.ownsRow w.heap.size 9 1 (.slice (some ⟨w.heap.size, 0, none⟩) ps.length ps.length) ps.length (ts.map Value.string) := by
        rw [← trow_full, htl.out]; exact hown.out
      have hcells := fun (j : Nat) x (hj : ts[j]? = some x) => trow_cells hf j x hj
      have hjoin : Calls Tryz.prog 14 #[.slice (some ⟨w.heap.size, 0, none⟩) ps.length ps.length, .string ⟨#[32]⟩] wr fun e w' => e = .returned (.string (jn ts)) ∧ Below wr.heap.size wr w' := by
        by_cases h0 : ps.length = 0
        · have e : jn ts = ⟨#[]⟩ := by rw [List.eq_nil_of_length_eq_zero (htl.out.trans h0)]; rfl
          rw [h0, e]
          exact (Tryz.strings_Join_none _ _ _ wr).mono fun e w' ⟨he, hw⟩ => ⟨he, by rw [hw]; exact Below.refl _ _⟩
        · have h := Tryz.strings_Join w.heap.size 0 ps.length ts ⟨#[32]⟩ wr hcells (by
            rcases hown.out.2 with ⟨h, _⟩ | ⟨g, _, _, h, _, h3, _⟩
            · cases h
            · simp only [Value.slice.injEq, Option.some.injEq, Addr.mk.injEq] at h
              rw [← h.1.1] at h3
              exact (Array.getElem?_eq_some_iff.1 h3).1) (by rw [htl.out]; omega) (by rw [htl.out]; omega) (by
            have h5 := hbig.out
            have e5 : (jn ts).size = (Lib.join (ts.map (·.data.toList)) [32]).length := by simp [jn, ByteArray.size]
            show (Lib.join (ts.map (·.data.toList)) [32]).length ≤ _
            omega)
          rw [htl.out] at h
          exact h
      obtain ⟨T, hT5⟩ : ∃ T, Hid (T = jn ts) := ⟨_, (rfl : _ = _)⟩
      rw [← hT5.out] at hjoin
      clear hcells hown hf
      go_wp2_with fail
      refine hjoin.mono ?_
      rintro e w2 ⟨rfl, hB2⟩
      have hfin : Hid (Below w.heap.size w w2) := hnx.out.trans (hB2.mono hnx.out.size)
      clear hB2 hjoin
      go_wp2
      go_ret
      exact ⟨by rw [← hT5.out]; rfl, hfin.out⟩
end Go.Proofs.YtnecfgmbfkocnacGreatDoor
/-
  HOPS PRINTED: the reference's, by contract.
-/
namespace Go.Proofs.YtnecfgmbfkocnacGreatDoor
open Go.ChangeShapes Go.WideShapes Go.ChangeAt Go.RowKit

set_option maxHeartbeats 1600000 in
theorem rnum_c (u : Nat) (w : World) (hu : u < 18446744073709551616) : Calls Tryz.prog 27 #[.int .u64 (u : Int)] w fun e w' => e = .returned (.string (tx (Lib.decDigits u))) ∧ w' = w := by
  induction u using Nat.strongRecOn generalizing w with
  | _ u ih =>
    by_cases h : u < 10
    · have e : Lib.decDigits u = [UInt8.ofNat (48 + u)] := by rw [Lib.decDigits, dif_pos h]
      rw [e]
      have hc : u = 0 ∨ u = 1 ∨ u = 2 ∨ u = 3 ∨ u = 4 ∨ u = 5 ∨ u = 6 ∨ u = 7 ∨ u = 8 ∨ u = 9 := by omega
      clear ih e h hu
      rcases hc with rfl | rfl | rfl | rfl | rfl | rfl | rfl | rfl | rfl | rfl
      all_goals
        go_enter Tryz.func27, Tryz.ntmps27
        go_wp2
        go_ret
        exact ⟨rfl, rfl⟩
    · have e : Lib.decDigits u = Lib.decDigits (u / 10) ++ [UInt8.ofNat (48 + u % 10)] := by rw [Lib.decDigits, dif_neg h]
      have e2 : Lib.decDigits (u % 10) = [UInt8.ofNat (48 + u % 10)] := by rw [Lib.decDigits, dif_pos (by omega)]
      rw [e, ← e2]
      have h1 := fun w => ih (u / 10) (by omega) w (by omega)
      have h2 := fun w => ih (u % 10) (by omega) w (by omega)
      have l1 := dec_len20 (u / 10) (by omega)
      have l2 := dec_len20 (u % 10) (by omega)
      have hs : ¬ 9223372036854775807 < (tx (Lib.decDigits (u / 10))).size + (tx (Lib.decDigits (u % 10))).size := by rw [tx_size, tx_size]; omega
      have ha : Hid (tx (Lib.decDigits (u / 10)) ++ tx (Lib.decDigits (u % 10)) = tx (Lib.decDigits (u / 10) ++ Lib.decDigits (u % 10))) := tx_app _ _
      have q1 : (u : Int) / 10 = ((u / 10 : Nat) : Int) := by omega
      have q2 : (u : Int) % 10 = ((u % 10 : Nat) : Int) := by omega
      have hu1 : ¬ (u : Int) < 10 := by omega
      have hu2 : (u : Int) < 18446744073709551616 := by omega
      obtain ⟨Z, hZ⟩ : ∃ Z, Hid (Z = tx (Lib.decDigits (u / 10) ++ Lib.decDigits (u % 10))) := ⟨_, (rfl : _ = _)⟩
      rw [← hZ.out] at ha ⊢
      clear ih e e2 h l1 l2 hZ
      generalize tx (Lib.decDigits (u / 10)) = A at *
      generalize tx (Lib.decDigits (u % 10)) = B at *
      generalize u / 10 = x at *
      generalize u % 10 = y at *
      go_enter Tryz.func27, Tryz.ntmps27
      go_wp2_with fail
      refine (h1 _).mono ?_
      rintro e w' ⟨rfl, rfl⟩
      go_wp2_with fail
      refine (h2 _).mono ?_
      rintro e w' ⟨rfl, rfl⟩
      clear h1 h2
      go_wp2
      go_ret
      exact ⟨by rw [← ha.out]; rfl, rfl⟩
set_option maxHeartbeats 1600000 in
theorem rNum_c (n : Int) (w : World) (h1 : -9223372036854775808 ≤ n) (h2 : n ≤ 9223372036854775807) : Calls Tryz.prog 15 #[.int .i64 n] w fun e w' => e = .returned (.string (tx (Lib.itoa n))) ∧ w' = w := by
  unfold Lib.itoa
  by_cases hn : n < 0
  · rw [if_pos hn]
    obtain ⟨m, hm⟩ : ∃ m : Nat, n.natAbs = m + 1 := ⟨n.natAbs - 1, by omega⟩
    rw [hm]
    have hnum := fun w => rnum_c (m + 1) w (by omega)
    have l1 := dec_len20 (m + 1) (by omega)
    have hs : ¬ 9223372036854775807 < (⟨#[45]⟩ : ByteArray).size + (tx (Lib.decDigits (m + 1))).size := by
      have e : (⟨#[45]⟩ : ByteArray).size = 1 := rfl
      rw [tx_size, e]; omega
    have ha : Hid ((⟨#[45]⟩ : ByteArray) ++ tx (Lib.decDigits (m + 1)) = tx (45 :: Lib.decDigits (m + 1))) := tx_app [45] _
    have e1 : -(n + 1) = (m : Int) := by omega
    have e2 : wrap64 (n + 1) = n + 1 := IntWalk.wrap64_in _ (by omega)
    obtain ⟨Z, hZ⟩ : ∃ Z, Hid (Z = tx (45 :: Lib.decDigits (m + 1))) := ⟨_, (rfl : _ = _)⟩
    rw [← hZ.out] at ha ⊢
    have e3 : ((m + 1 : Nat) : Int) = (m : Int) + 1 := by omega
    rw [e3] at hnum
    clear hZ l1 hm e3
    generalize tx (Lib.decDigits (m + 1)) = B at *
    have hm1 : (m : Int) ≤ 9223372036854775807 := by omega
    go_enter Tryz.func15, Tryz.ntmps15
    go_wp2_with fail
    refine (hnum _).mono ?_
    rintro e w' ⟨rfl, rfl⟩
    clear hnum
    go_wp2
    go_ret
    exact ⟨by rw [← ha.out]; rfl, rfl⟩
  · rw [if_neg hn]
    obtain ⟨m, rfl⟩ := Int.eq_ofNat_of_zero_le (show 0 ≤ n by omega)
    rw [Int.toNat_natCast]
    have hnum := fun w => rnum_c m w (by omega)
    generalize tx (Lib.decDigits m) = B at *
    go_enter Tryz.func15, Tryz.ntmps15
    go_wp2_with fail
    refine (hnum _).mono ?_
    rintro e w' ⟨rfl, rfl⟩
    clear hnum
    go_wp2
    go_ret
    exact ⟨rfl, rfl⟩
set_option maxHeartbeats 6400000 in
set_option maxRecDepth 100000 in
theorem hrprint_c (v : Value) (ps : List Hop) (w : World) (hv : SlR hopR w v ps) (hz : ps.length ≤ 8) (hok : ∀ x ∈ ps, Hop.ok x) :
    Calls Tryz.prog 8 #[v] w fun e w' => e = .returned (.string (jn (ps.map htx))) ∧ Below w.heap.size w w' := by
  obtain ⟨a, cap, rfl, -, -, -, hrow⟩ := hv
  replace hrow := hidden hrow
  replace hok := hidden hok
  obtain ⟨ts, hts⟩ : ∃ ts, ts = ps.map htx := ⟨_, rfl⟩
  have htl : Hid (ts.length = ps.length) := by show _ = _; rw [hts, List.length_map]
  have htok : Hid (∀ t ∈ ts, t.size ≤ 22) := fun t ht => by
    rw [hts] at ht
    obtain ⟨x, hx, rfl⟩ := List.mem_map.1 ht
    exact htx_size (hok.out x hx)
  have hget : Hid (∀ k, k < ps.length → ts.getD k ⟨#[]⟩ = htx (ps.getD k (0, false))) := fun k hk => by
    rw [hts]; simp [List.getD, hk]
  rw [← hts]
  replace hts := hidden hts
  go_enter Tryz.func8, Tryz.ntmps8
  go_wp2
  go_loopw [3, 4] (fun s i wr => ∃ k : Nat, k ≤ ps.length ∧ i = .int .i64 k ∧ s = .string (jn (ts.take k)) ∧ Hid (Below w.heap.size w wr))
    (fun _ i _ => ps.length - (intOf i).toNat)
  case atStart => exact ⟨0, Nat.zero_le _, rfl, rfl, Below.refl _ _⟩
  case round =>
    obtain ⟨k, hk, rfl, rfl, hnx⟩ := hrel
    by_cases hlt : k < ps.length
    · obtain ⟨b, off, rfl, hb, hc1, hc2⟩ := hop_at hrow.out hlt
      have hx1 := (hnx.out.cell (p := ⟨b, off + k * 2, none⟩) (by exact hb)).trans hc1
      have hx2 := (hnx.out.cell (p := ⟨b, off + k * 2 + 1, none⟩) (by exact hb)).trans hc2
      have hpo : Hid (Hop.ok (ps.getD k (0, false))) := by
        have e : ps.getD k (0, false) = ps[k] := by simp [List.getD, hlt]
        show Hop.ok _
        rw [e]; exact hok.out _ (List.getElem_mem _)
      have hV := hidden (hget.out k hlt)
      have htk := take_snocR ts ⟨#[]⟩ k (by rw [htl.out]; exact hlt)
      have hAs : (jn (ts.take k)).size ≤ 200 := by
        have h := jn_size 22 (ts.take k) (fun t ht => htok.out t (List.mem_of_mem_take ht))
        have : (ts.take k).length * (22 + 1) ≤ 8 * 23 := Nat.mul_le_mul_right _ (by rw [List.length_take]; omega)
        omega
      clear hc1 hc2 hget hok htok
      generalize ps.getD k (0, false) = p at *
      obtain ⟨pe, pb⟩ := p
      simp only at hx1 hx2
      have hnum := fun x => rNum_c pe x hpo.out.1 hpo.out.2
      have hI : (tx (Lib.itoa pe)).size ≤ 21 := by rw [tx_size]; exact itoa_len _ hpo.out.1 hpo.out.2
      replace hV : Hid (ts.getD k ⟨#[]⟩ = (if pb then ⟨#[45]⟩ else ⟨#[43]⟩ : ByteArray) ++ tx (Lib.itoa pe)) := hV.out
      generalize tx (Lib.itoa pe) = I at *
      have e32 : (⟨#[32]⟩ : ByteArray).size = 1 := rfl
      have e45 : (⟨#[45]⟩ : ByteArray).size = 1 := rfl
      have e43 : (⟨#[43]⟩ : ByteArray).size = 1 := rfl
      clear hpo hrow
      by_cases hk0 : k = 0
      · subst hk0
        simp only [Nat.zero_mul, Nat.add_zero] at hx1 hx2
        have hA0 : jn (ts.take 0) = ⟨#[]⟩ := rfl
        have hst : jn (ts.take (0 + 1)) = ts.getD 0 ⟨#[]⟩ := by rw [htk, List.take_zero, List.nil_append, jn_one]
        rw [hV.out] at hst
        rw [hA0]
        clear hA0 htk hAs hV
        cases pb
        all_goals
          simp only [if_true, if_false, Bool.false_eq_true] at hst
          have hst2 := hidden hst
          clear hst
          have ha1 : (⟨#[]⟩ : ByteArray) ++ ⟨#[45]⟩ = ⟨#[45]⟩ := rfl
          have ha2 : (⟨#[]⟩ : ByteArray) ++ ⟨#[43]⟩ = ⟨#[43]⟩ := rfl
          have ho1 : ¬ 9223372036854775807 < (⟨#[45]⟩ : ByteArray).size + I.size := by rw [e45]; omega
          have ho2 : ¬ 9223372036854775807 < (⟨#[43]⟩ : ByteArray).size + I.size := by rw [e43]; omega
          go_wp2_with fail
          refine (hnum _).mono ?_
          rintro e w2 ⟨rfl, rfl⟩
          go_wp2
          go_roundw
          case rel => exact ⟨1, by omega, by go_num, by rw [hst2.out], hnx⟩
          case measure => simp [intOf]; omega
      · have hki : (0 : Int) < (k : Int) := by omega
        have hst : jn (ts.take (k + 1)) = (jn (ts.take k) ++ ⟨#[32]⟩) ++ ts.getD k ⟨#[]⟩ := by
          rw [htk, jn_snoc]
          intro h
          have := congrArg List.length h
          rw [List.length_take, htl.out] at this
          simp only [List.length_nil] at this; omega
        rw [hV.out] at hst
        clear htk hV
        have ho0 : ¬ 9223372036854775807 < (jn (ts.take k)).size + (⟨#[32]⟩ : ByteArray).size := by rw [e32]; omega
        generalize jn (ts.take k) = A at *
        have hs1 : (A ++ ⟨#[32]⟩).size ≤ 201 := by rw [ByteArray.size_append, e32]; clear ho0; omega
        have hs2 : ((A ++ ⟨#[32]⟩) ++ ⟨#[45]⟩).size ≤ 202 := by rw [ByteArray.size_append, e45]; clear ho0; omega
        have hs3 : ((A ++ ⟨#[32]⟩) ++ ⟨#[43]⟩).size ≤ 202 := by rw [ByteArray.size_append, e43]; clear ho0; omega
        have ho1 : ¬ 9223372036854775807 < (A ++ ⟨#[32]⟩).size + (⟨#[45]⟩ : ByteArray).size := by rw [e45]; omega
        have ho2 : ¬ 9223372036854775807 < (A ++ ⟨#[32]⟩).size + (⟨#[43]⟩ : ByteArray).size := by rw [e43]; omega
        have ho3 : ¬ 9223372036854775807 < ((A ++ ⟨#[32]⟩) ++ ⟨#[45]⟩).size + I.size := by omega
        have ho4 : ¬ 9223372036854775807 < ((A ++ ⟨#[32]⟩) ++ ⟨#[43]⟩).size + I.size := by omega
        clear hs1 hs2 hs3 hAs e32 e45 e43
        cases pb
        all_goals
          simp only [if_true, if_false, Bool.false_eq_true] at hst
          rw [← ByteArray.append_assoc] at hst
          have hst2 := hidden hst
          clear hst
          go_wp2_with fail
          refine (hnum _).mono ?_
          rintro e w2 ⟨rfl, rfl⟩
          go_wp2
          go_roundw
          case rel => exact ⟨k + 1, by omega, by go_num, by rw [hst2.out], hnx⟩
          case measure => simp [intOf]; omega
    · obtain rfl : k = ps.length := by omega
      have hall : Hid (ts.take ps.length = ts) := List.take_of_length_le (by rw [htl.out]; exact Nat.le_refl _)
      go_wp2
      go_ret
      exact ⟨by rw [hall.out]; rfl, hnx.out⟩
end Go.Proofs.YtnecfgmbfkocnacGreatDoor
