/-
  THE NAMES AND LABELS OF A QUERY, by contract: the reference's and the program's.
-/
import Derived.Test.YtpjcjlbjcegjgaaGreatDoorQRel
import Derived.Laws.OwnMore
namespace Go.Proofs.YtpjcjlbjcegjgaaGreatDoor
open Go.ChangeShapes Go.WideShapes Go.ChangeAt Go.RowKit

theorem box7q {x : World} {b : Nat} {c0 c1 c2 c3 c4 c5 c6 : Value} {t : TypeId} (h : x.heap[b]? = some (.cells #[c0, c1, c2, c3, c4, c5, c6] t)) :
    (x.cell? ⟨b, 0, none⟩ = some c0 ∧ x.cell? ⟨b, 1, none⟩ = some c1 ∧ x.cell? ⟨b, 2, none⟩ = some c2 ∧ x.cell? ⟨b, 3, none⟩ = some c3 ∧ x.cell? ⟨b, 4, none⟩ = some c4 ∧ x.cell? ⟨b, 5, none⟩ = some c5 ∧ x.cell? ⟨b, 6, none⟩ = some c6) ∧ ∀ j, x.frozen? ⟨b, j, none⟩ = false := by
  simp [World.cell?, World.frozen?, h]
/-- A row of texts that is being told, behind the box that holds the query. -/
structure TR (w x : World) (inp : Array Value) (v : Value) (L : List ByteArray) : Prop where
  below : Below w.heap.size w x
  box : x.heap[w.heap.size]? = some (.cells inp 26)
  row : x.ownsRow (w.heap.size + 1) 9 1 v L.length (tx L)
theorem TR.step {w x z : World} {inp : Array Value} {v : Value} {L : List ByteArray} (h : TR w x inp v L) (hB : Below x.heap.size x z) : TR w z inp v L :=
  ⟨h.below.trans (hB.mono h.below.size), box_below h.box hB, owns_keep h.row hB⟩
theorem TR.next {w x z : World} {inp : Array Value} {v v' : Value} {L : List ByteArray} {s : ByteArray} (h : TR w x inp v L) (hown : z.ownsRow (w.heap.size + 1) 9 1 v' (L.length + 1) (tx L ++ [.string s])) (hg : x.grownBy z v.ownBlock) : TR w z inp v' (L ++ [s]) := by
  refine ⟨h.below.grown hg h.below.size (fun j hj => by have := (h.row.lt j hj).1; omega), box_grown h.box h.row (by decide) hg, ?_⟩
  rw [tx_app, List.length_append]
  exact hown
theorem TR.none0 (w : World) (inp : Array Value) : TR w (w.alloc (.cells inp 26)) inp (.slice none 0 0) [] :=
  ⟨(Below.refl _ _).alloc (Nat.le_refl _) _, heap_alloc_new _ _, World.ownsRow_nil ..⟩
theorem TR.made0 (w : World) (inp : Array Value) : TR w ((w.alloc (.cells inp 26)).alloc (.cells #[] 9)) inp (.slice (some ⟨w.heap.size + 1, 0, none⟩) 0 0) [] := by
  refine ⟨((Below.refl _ _).alloc (Nat.le_refl _) _).alloc (by simp) _, (heap_alloc_old _ _ (by simp)).trans (heap_alloc_new _ _), ?_⟩
  have h := World.ownsRow_lit (base := w.heap.size + 1) (e := 9) (size := 1) (w.alloc (.cells inp 26)) #[] 0 (by simp) (by decide) rfl
  rw [show (w.alloc (.cells inp 26)).heap.size = w.heap.size + 1 by simp] at h
  exact h
theorem nil_txt : (⟨#[]⟩ : ByteArray).toList = [] := by rw [ByteArray.toList_eq]
theorem txt_nil {s : ByteArray} (h : s.toList = []) : s = ⟨#[]⟩ := txt_inj (h.trans nil_txt.symm)
def namesQ (es : List Pth) : List ByteArray := (es.map Pth.v).filter fun s => decide (s ≠ ⟨#[]⟩)
theorem namesQ_snoc (es : List Pth) (k : Nat) (hk : k < es.length) : namesQ (es.take (k + 1)) = namesQ (es.take k) ++ if (es.getD k Pth.none).v = ⟨#[]⟩ then [] else [(es.getD k Pth.none).v] := by
  unfold namesQ
  rw [take_snocR es Pth.none k hk, List.map_append, List.filter_append]
  generalize es.getD k Pth.none = p
  by_cases h : p.v = ⟨#[]⟩ <;> simp [h]
theorem namesQ_le (es : List Pth) : (namesQ es).length ≤ es.length := by
  unfold namesQ
  exact Nat.le_trans (List.length_filter_le _ _) (by simp)

set_option maxRecDepth 100000 in
set_option maxHeartbeats 3200000 in
theorem rnamesQ_c (es : List Pth) (na : Option Addr) (N0 nc : Nat) (ea : Option Addr) (M0 ec : Nat) (ra : Option Addr) (R0 rc : Nat) (qc : Bool) (sk li : Int) (ct : Bool) (w : World) (hE : HoldsE w (.slice ea M0 ec) es) (hl : es.length ≤ 90000) :
    Calls Tryz.prog 11 #[.agg #[.slice na N0 nc, .slice ea M0 ec, .slice ra R0 rc, .bool qc, .int .i64 sk, .int .i64 li, .bool ct]] w fun e w' => ∃ a c, e = .returned (.slice a (namesQ es).length c) ∧ w'.ownsRow (w.heap.size + 1) 9 1 (.slice a (namesQ es).length c) (namesQ es).length (tx (namesQ es)) ∧ Below w.heap.size w w' := by
  obtain ⟨_, _, hv⟩ := hE.slice
  simp only [Value.slice.injEq] at hv
  obtain ⟨-, hM, -⟩ := hv
  rw [← hM] at hl
  replace hM := hidden hM
  replace hE := hidden hE
  obtain ⟨ix, hix, hx0, hx1, hx2⟩ := info_parts infoTxt
  have hT0 := hidden (TR.made0 w #[.slice na N0 nc, .slice ea M0 ec, .slice ra R0 rc, .bool qc, .int .i64 sk, .int .i64 li, .bool ct])
  go_enter Tryz.func11, Tryz.ntmps11
  go_wp2
  go_loopw [3, 4] (fun u i x => ∃ (k : Nat) (L : List ByteArray), i = .int .i64 k ∧ k ≤ M0 ∧ Hid (L = namesQ (es.take k)) ∧ Hid (TR w x #[.slice na N0 nc, .slice ea M0 ec, .slice ra R0 rc, .bool qc, .int .i64 sk, .int .i64 li, .bool ct] u L)) (fun _ i _ => M0 - (intOf i).toNat)
  case atStart => exact ⟨0, [], rfl, Nat.zero_le _, rfl, hT0⟩
  case round =>
    clear hT0
    obtain ⟨k, L, rfl, hk, hL, hT⟩ := hrel
    obtain ⟨⟨g0, g1, g2, g3, g4, g5, g6⟩, -⟩ := box7q hT.out.box
    by_cases hlt : k < M0
    · have hj1 : (k : Int) < (M0 : Int) := by omega
      have hkp : k < es.length := by rw [← hM.out]; exact hlt
      obtain ⟨b, off, D, x, rfl, hb, -, -, -, -, -, -, c6, -, -, -⟩ := path_at hE.out hkp
      have f6 := (hT.out.below.cell (p := ⟨b, off + k * 9 + 6, none⟩) hb).trans c6
      have hsn := hidden (namesQ_snoc es k hkp)
      have hlen : Hid (L.length ≤ k) := by
        show _ ≤ _
        rw [hL.out]
        exact Nat.le_trans (namesQ_le _) (by simp; omega)
      generalize (es.getD k Pth.none).v = s at *
      clear c6
      by_cases hs : s = ⟨#[]⟩
      · have hs1 : s.toList = [] := by rw [hs]; exact nil_txt
        have hs2 : s.toList.isEmpty = true := by rw [hs1]; rfl
        have hL2 : Hid (L = namesQ (es.take (k + 1))) := by
          show _ = _
          rw [hsn.out, if_pos hs, List.append_nil]
          exact hL.out
        clear hL hsn hs
        go_wp2
        go_roundw
        case rel => exact ⟨k + 1, L, by go_num, by omega, hL2, hT⟩
        case measure => simp [intOf]; omega
      · have hs1 : ¬ s.toList = [] := fun h => hs (txt_nil h)
        have hs2 : s.toList.isEmpty = false := by simpa using hs1
        have hL2 : Hid (L ++ [s] = namesQ (es.take (k + 1))) := by
          show _ = _
          rw [hsn.out, if_neg hs, ← hL.out]
        have hbs : Hid (w.heap.size + 1 ≤ wr.heap.size) := by show _ ≤ _; have := (Array.getElem?_eq_some_iff.1 hT.out.box).1; omega
        clear hL hsn hs
        go_wp2_with (at_builtin; go_loud (refine wpList_append_own _ rfl _ _ 24 rfl (w.heap.size + 1) 9 ix (.string ⟨#[]⟩) 1 16 Tryz.underlying24 hix hx0 hx1 hx2 rfl (by decide) u3 _ _ rfl (hT.out.row.alloc _) ⟨wr.heap.size, 0, none⟩ 1 1 [.string s] rfl rfl (cells_new wr [_] _) (by simp [Value.oneCell']) (by have := hlen.out; unfold maxLen; omega) (by have := hlen.out; omega) (by have := hbs.out; simp; omega) ?_); intro v' w6 hown6 hgrow6 _)
        have hT2 := hidden ((hT.out.step ((Below.refl _ _).alloc (Nat.le_refl _) (.cells #[.string s] 9))).next hown6 hgrow6)
        clear hT hown6 hgrow6 hbs hlen g0 g1 g2 g3 g4 g5 g6 f6
        go_wp2
        go_roundw
        case rel => exact ⟨k + 1, _, by go_num, by omega, hL2, hT2⟩
        case measure => simp [intOf]; omega
    · have hj1 : ¬ (k : Int) < (M0 : Int) := by omega
      have hL2 : Hid (L = namesQ es) := by
        show _ = _
        rw [hL.out, List.take_of_length_le (by rw [← hM.out]; omega)]
      go_wp2
      go_ret
      obtain rfl := hL2.out
      obtain ⟨a, c, rfl⟩ := own_shape hT.out.row
      exact ⟨a, c, rfl, hT.out.row, hT.out.below⟩
end Go.Proofs.YtpjcjlbjcegjgaaGreatDoor
/-
  THE NAMES OF A QUERY, by contract: the program's.
-/
namespace Go.Proofs.YtpjcjlbjcegjgaaGreatDoor
open Go.ChangeShapes Go.WideShapes Go.ChangeAt Go.RowKit

theorem box9q {x : World} {b : Nat} {c0 c1 c2 c3 c4 c5 c6 c7 c8 : Value} {t : TypeId} (h : x.heap[b]? = some (.cells #[c0, c1, c2, c3, c4, c5, c6, c7, c8] t)) :
    (x.cell? ⟨b, 0, none⟩ = some c0 ∧ x.cell? ⟨b, 1, none⟩ = some c1 ∧ x.cell? ⟨b, 2, none⟩ = some c2 ∧ x.cell? ⟨b, 3, none⟩ = some c3 ∧ x.cell? ⟨b, 4, none⟩ = some c4 ∧ x.cell? ⟨b, 5, none⟩ = some c5 ∧ x.cell? ⟨b, 6, none⟩ = some c6 ∧ x.cell? ⟨b, 7, none⟩ = some c7 ∧ x.cell? ⟨b, 8, none⟩ = some c8) ∧ ∀ j, x.frozen? ⟨b, j, none⟩ = false := by
  simp [World.cell?, World.frozen?, h]
set_option maxRecDepth 100000 in
set_option maxHeartbeats 3200000 in
theorem qnamesQ_c (es : List Pth) (na : Option Addr) (N0 nc : Nat) (ea : Option Addr) (M0 ec : Nat) (ra : Option Addr) (R0 rc : Nat) (qc : Bool) (sk li : Int) (ct : Bool) (w : World) (hE : HoldsE w (.slice ea M0 ec) es) (hl : es.length ≤ 90000) :
    Calls Tryz.prog 10 #[.agg #[.slice na N0 nc, .slice ea M0 ec, .slice ra R0 rc, .bool qc, .int .i64 sk, .int .i64 li, .bool ct]] w fun e w' => ∃ a c, e = .returned (.slice a (namesQ es).length c) ∧ w'.ownsRow (w.heap.size + 1) 9 1 (.slice a (namesQ es).length c) (namesQ es).length (tx (namesQ es)) ∧ Below w.heap.size w w' := by
  obtain ⟨_, _, hv⟩ := hE.slice
  simp only [Value.slice.injEq] at hv
  obtain ⟨-, hM, -⟩ := hv
  rw [← hM] at hl
  replace hM := hidden hM
  replace hE := hidden hE
  obtain ⟨ix, hix, hx0, hx1, hx2⟩ := info_parts infoTxt
  have hT0 := hidden (TR.none0 w #[.slice na N0 nc, .slice ea M0 ec, .slice ra R0 rc, .bool qc, .int .i64 sk, .int .i64 li, .bool ct])
  go_enter Tryz.func10, Tryz.ntmps10
  obtain ⟨⟨q0, q1, q2, q3, q4, q5, q6⟩, -⟩ := box7q hT0.out.box
  go_wp2
  clear q0 q1 q2 q3 q4 q5 q6
  go_loopw [3, 9] (fun u i x => ∃ (k : Nat) (L : List ByteArray), i = .int .i64 k ∧ k ≤ M0 ∧ Hid (L = namesQ (es.take k)) ∧ Hid (TR w x #[.slice na N0 nc, .slice ea M0 ec, .slice ra R0 rc, .bool qc, .int .i64 sk, .int .i64 li, .bool ct] u L)) (fun _ i _ => M0 - (intOf i).toNat)
  case atStart => exact ⟨0, [], rfl, Nat.zero_le _, rfl, hT0⟩
  case round =>
    clear hT0
    obtain ⟨k, L, rfl, hk, hL, hT⟩ := hrel
    obtain ⟨⟨g0, g1, g2, g3, g4, g5, g6⟩, -⟩ := box7q hT.out.box
    by_cases hlt : k < M0
    · have hj1 : (k : Int) < (M0 : Int) := by omega
      have hkp : k < es.length := by rw [← hM.out]; exact hlt
      obtain ⟨b, off, D, x, rfl, hb, c0, c1, c2, c3, c4, c5, c6, c7, c8, -⟩ := path_at hE.out hkp
      have f0 := (hT.out.below.cell (p := ⟨b, off + k * 9, none⟩) hb).trans c0
      have f1 := (hT.out.below.cell (p := ⟨b, off + k * 9 + 1, none⟩) hb).trans c1
      have f2 := (hT.out.below.cell (p := ⟨b, off + k * 9 + 2, none⟩) hb).trans c2
      have f3 := (hT.out.below.cell (p := ⟨b, off + k * 9 + 3, none⟩) hb).trans c3
      have f4 := (hT.out.below.cell (p := ⟨b, off + k * 9 + 4, none⟩) hb).trans c4
      have f5 := (hT.out.below.cell (p := ⟨b, off + k * 9 + 5, none⟩) hb).trans c5
      have f6 := (hT.out.below.cell (p := ⟨b, off + k * 9 + 6, none⟩) hb).trans c6
      have f7 := (hT.out.below.cell (p := ⟨b, off + k * 9 + 7, none⟩) hb).trans c7
      have f8 := (hT.out.below.cell (p := ⟨b, off + k * 9 + 8, none⟩) hb).trans c8
      clear c0 c1 c2 c3 c4 c5 c7 c8
      have hsn := hidden (namesQ_snoc es k hkp)
      have hlen : Hid (L.length ≤ k) := by
        show _ ≤ _
        rw [hL.out]
        exact Nat.le_trans (namesQ_le _) (by simp; omega)
      generalize es.getD k Pth.none = pd at *
      obtain ⟨pf, pt, pr, s, ph, psh⟩ := pd
      simp only at f0 f1 f6 f7 f8 hsn
      clear c6
      have hT1 := hidden (hT.out.step ((Below.refl _ _).alloc (Nat.le_refl _) (.cells #[.string pf, .string pt, .int .i64 x.k, .string x.s, .bool x.b, .slice x.a x.n x.c, .string s, .int .i64 ph, .bool psh] 49)))
      generalize hxk : x.k = xk at *
      generalize hxs : x.s = xs at *
      generalize hxb : x.b = xb at *
      generalize hxa : x.a = xa at *
      generalize hxn : x.n = xn at *
      generalize hxc : x.c = xc at *
      clear hxk hxs hxb hxa hxn hxc
      have hP1 := hidden (heap_alloc_new wr (.cells #[.string pf, .string pt, .int .i64 xk, .string xs, .bool xb, .slice xa xn xc, .string s, .int .i64 ph, .bool psh] 49))
      have hbs : Hid (w.heap.size + 1 ≤ (wr.alloc (.cells #[.string pf, .string pt, .int .i64 xk, .string xs, .bool xb, .slice xa xn xc, .string s, .int .i64 ph, .bool psh] 49)).heap.size) := by show _ ≤ _; have := (Array.getElem?_eq_some_iff.1 hT.out.box).1; simp; omega
      have hys : Hid ((wr.alloc (.cells #[.string pf, .string pt, .int .i64 xk, .string xs, .bool xb, .slice xa xn xc, .string s, .int .i64 ph, .bool psh] 49)).heap.size = wr.heap.size + 1) := hidden (by simp)
      generalize hya : wr.alloc (.cells #[.string pf, .string pt, .int .i64 xk, .string xs, .bool xb, .slice xa xn xc, .string s, .int .i64 ph, .bool psh] 49) = y at *
      replace hya := hidden hya
      obtain ⟨⟨p0, p1, p2, p3, p4, p5, p6, p7, p8⟩, -⟩ := box9q hP1.out
      clear hT
      by_cases hs : s = ⟨#[]⟩
      · have hs1 : s.toList = [] := by rw [hs]; exact nil_txt
        have hs2 : s.toList.isEmpty = true := by rw [hs1]; rfl
        have hL2 : Hid (L = namesQ (es.take (k + 1))) := by
          show _ = _
          rw [hsn.out, if_pos hs, List.append_nil]
          exact hL.out
        clear hL hsn hs
        go_wp2
        go_roundw
        case rel => exact ⟨k + 1, L, by go_num, by omega, hL2, by rw [hya.out]; exact hT1⟩
        case measure => simp [intOf]; omega
      · have hs1 : ¬ s.toList = [] := fun h => hs (txt_nil h)
        have hs2 : s.toList.isEmpty = false := by simpa using hs1
        have hL2 : Hid (L ++ [s] = namesQ (es.take (k + 1))) := by
          show _ = _
          rw [hsn.out, if_neg hs, ← hL.out]
        clear hL hsn hs
        go_wp2_with (at_builtin; rw [hya.out]; go_loud (refine wpList_append_own _ rfl _ _ 24 rfl (w.heap.size + 1) 9 ix (.string ⟨#[]⟩) 1 16 Tryz.underlying24 hix hx0 hx1 hx2 rfl (by decide) u3 _ _ rfl (hT1.out.row.alloc _) ⟨wr.heap.size + 1, 0, none⟩ 1 1 [.string s] rfl rfl (by rw [← hys.out]; exact cells_new y [_] _) (by simp [Value.oneCell']) (by have := hlen.out; unfold maxLen; omega) (by have := hlen.out; omega) (by have := hbs.out; simp; omega) ?_); intro v' w6 hown6 hgrow6 _)
        have hT2 := hidden ((hT1.out.step ((Below.refl _ _).alloc (Nat.le_refl _) (.cells #[.string s] 9))).next hown6 hgrow6)
        clear hT1 hown6 hgrow6 hbs hlen g0 g1 g2 g3 g4 g5 g6 f0 f1 f2 f3 f4 f5 f6 f7 f8 p0 p1 p2 p3 p4 p5 p6 p7 p8 hP1 hya hys
        go_wp2
        go_roundw
        case rel => exact ⟨k + 1, _, by go_num, by omega, hL2, hT2⟩
        case measure => simp [intOf]; omega
    · have hj1 : ¬ (k : Int) < (M0 : Int) := by omega
      have hL2 : Hid (L = namesQ es) := by
        show _ = _
        rw [hL.out, List.take_of_length_le (by rw [← hM.out]; omega)]
      go_wp2
      go_ret
      obtain rfl := hL2.out
      obtain ⟨a, c, rfl⟩ := own_shape hT.out.row
      exact ⟨a, c, rfl, hT.out.row, hT.out.below⟩
end Go.Proofs.YtpjcjlbjcegjgaaGreatDoor
