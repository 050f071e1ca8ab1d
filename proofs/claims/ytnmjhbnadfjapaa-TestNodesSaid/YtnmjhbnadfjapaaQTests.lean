/-
  THE LABELS OF A QUERY, by contract: the reference's and the program's.
-/
import Derived.Test.YtnmjhbnadfjapaaQNames
namespace Go.Proofs.Ytnmjhbnadfjapaa
open Go.ChangeShapes Go.WideShapes Go.ChangeAt Go.RowKit

theorem box3q {x : World} {b : Nat} {c0 c1 c2 : Value} {t : TypeId} (h : x.heap[b]? = some (.cells #[c0, c1, c2] t)) :
    (x.cell? ⟨b, 0, none⟩ = some c0 ∧ x.cell? ⟨b, 1, none⟩ = some c1 ∧ x.cell? ⟨b, 2, none⟩ = some c2) ∧ ∀ j, x.frozen? ⟨b, j, none⟩ = false := by
  simp [World.cell?, World.frozen?, h]
def labelsQ (ps : List Pl) (v : ByteArray) : List ByteArray := (ps.filter fun p => decide (p.v = v ∧ p.l ≠ ⟨#[]⟩)).map Pl.l
theorem labelsQ_snoc (ps : List Pl) (v : ByteArray) (k : Nat) (hk : k < ps.length) : labelsQ (ps.take (k + 1)) v = labelsQ (ps.take k) v ++ if (ps.getD k Pl.none).v = v ∧ (ps.getD k Pl.none).l ≠ ⟨#[]⟩ then [(ps.getD k Pl.none).l] else [] := by
  unfold labelsQ
  rw [take_snocR ps Pl.none k hk, List.filter_append, List.map_append]
  generalize ps.getD k Pl.none = p
  by_cases h : p.v = v ∧ p.l ≠ ⟨#[]⟩
  · rw [if_pos h, List.filter_cons_of_pos (by simpa using h)]; rfl
  · rw [if_neg h, List.filter_cons_of_neg (by simpa using h)]; rfl
theorem labelsQ_le (ps : List Pl) (v : ByteArray) : (labelsQ ps v).length ≤ ps.length := by
  unfold labelsQ
  rw [List.length_map]
  exact List.length_filter_le _ _

set_option maxRecDepth 100000 in
set_option maxHeartbeats 3200000 in
theorem rlabelsQ_c (ps : List Pl) (v : ByteArray) (na : Option Addr) (N0 nc : Nat) (ea : Option Addr) (M0 ec : Nat) (ra : Option Addr) (R0 rc : Nat) (qc : Bool) (sk li : Int) (ct : Bool) (w : World) (hE : HoldsP w (.slice na N0 nc) ps) (hl : ps.length ≤ 90000) :
    Calls Try.prog 60 #[.agg #[.slice na N0 nc, .slice ea M0 ec, .slice ra R0 rc, .bool qc, .int .i64 sk, .int .i64 li, .bool ct], .string v] w fun e w' => ∃ a c, e = .returned (.slice a (labelsQ ps v).length c) ∧ w'.ownsRow (w.heap.size + 1) 9 1 (.slice a (labelsQ ps v).length c) (labelsQ ps v).length (tx (labelsQ ps v)) ∧ Below w.heap.size w w' := by
  obtain ⟨_, _, hv⟩ := hE.slice
  simp only [Value.slice.injEq] at hv
  obtain ⟨-, hM, -⟩ := hv
  rw [← hM] at hl
  replace hM := hidden hM
  replace hE := hidden hE
  obtain ⟨ix, hix, hx0, hx1, hx2⟩ := info_parts infoTxt
  have hT0 := hidden (TR.made0 w #[.slice na N0 nc, .slice ea M0 ec, .slice ra R0 rc, .bool qc, .int .i64 sk, .int .i64 li, .bool ct])
  obtain ⟨⟨q0, q1, q2, q3, q4, q5, q6⟩, -⟩ := box7q hT0.out.box
  go_enter Try.func60, Try.ntmps60
  go_wp2
  clear q0 q1 q2 q3 q4 q5 q6
  go_loopw [5, 6] (fun u i x => ∃ (k : Nat) (L : List ByteArray), i = .int .i64 k ∧ k ≤ N0 ∧ Hid (L = labelsQ (ps.take k) v) ∧ Hid (TR w x #[.slice na N0 nc, .slice ea M0 ec, .slice ra R0 rc, .bool qc, .int .i64 sk, .int .i64 li, .bool ct] u L)) (fun _ i _ => N0 - (intOf i).toNat)
  case atStart => exact ⟨0, [], rfl, Nat.zero_le _, rfl, hT0⟩
  case round =>
    clear hT0
    obtain ⟨k, L, rfl, hk, hL, hT⟩ := hrel
    obtain ⟨⟨g0, g1, g2, g3, g4, g5, g6⟩, -⟩ := box7q hT.out.box
    by_cases hlt : k < N0
    · have hj1 : (k : Int) < (N0 : Int) := by omega
      have hkp : k < ps.length := by rw [← hM.out]; exact hlt
      obtain ⟨b, off, pta, ptc, rfl, hb, c0, c1, c2, -⟩ := placeQ_at hE.out hkp
      have f0 := (hT.out.below.cell (p := ⟨b, off + k * 3, none⟩) hb).trans c0
      have f1 := (hT.out.below.cell (p := ⟨b, off + k * 3 + 1, none⟩) hb).trans c1
      have f2 := (hT.out.below.cell (p := ⟨b, off + k * 3 + 2, none⟩) hb).trans c2
      have hsn := hidden (labelsQ_snoc ps v k hkp)
      have hlen : Hid (L.length ≤ k) := by
        show _ ≤ _
        rw [hL.out]
        exact Nat.le_trans (labelsQ_le _ _) (by simp; omega)
      clear c0 c1 c2
      generalize ps.getD k Pl.none = pd at *
      obtain ⟨pv, s, pts⟩ := pd
      simp only at f0 f1 f2 hsn
      generalize pts.length = pn at *
      have hbs : Hid (w.heap.size + 1 ≤ wr.heap.size) := by show _ ≤ _; have := (Array.getElem?_eq_some_iff.1 hT.out.box).1; omega
      by_cases hv : pv = v
      · obtain rfl := hv.symm
        by_cases hs : s = ⟨#[]⟩
        · have hs1 : s.toList = [] := by rw [hs]; exact nil_txt
          have hs2 : s.toList.isEmpty = true := by rw [hs1]; rfl
          have hL2 : Hid (L = labelsQ (ps.take (k + 1)) v) := by
            show _ = _
            rw [hsn.out, if_neg (fun h => h.2 hs), List.append_nil]
            exact hL.out
          clear hL hsn hs
          go_wp2
          go_roundw
          case rel => exact ⟨k + 1, L, by go_num, by omega, hL2, hT⟩
          case measure => simp [intOf]; omega
        · have hs1 : ¬ s.toList = [] := fun h => hs (txt_nil h)
          have hs2 : s.toList.isEmpty = false := by simpa using hs1
          have hL2 : Hid (L ++ [s] = labelsQ (ps.take (k + 1)) v) := by
            show _ = _
            rw [hsn.out, if_pos ⟨rfl, hs⟩, ← hL.out]
          clear hL hsn hs
          go_wp2_with (at_builtin; go_loud (refine wpList_append_own _ rfl _ _ 72 rfl (w.heap.size + 1) 9 ix (.string ⟨#[]⟩) 1 16 Try.underlying72 hix hx0 hx1 hx2 rfl (by decide) u5 _ _ rfl (hT.out.row.alloc _) ⟨wr.heap.size, 0, none⟩ 1 1 [.string s] rfl rfl (cells_new wr [_] _) (by simp [Value.oneCell']) (by have := hlen.out; unfold maxLen; omega) (by have := hlen.out; omega) (by have := hbs.out; simp; omega) ?_); intro v' w6 hown6 hgrow6 _)
          have hT2 := hidden ((hT.out.step ((Below.refl _ _).alloc (Nat.le_refl _) (.cells #[.string s] 9))).next hown6 hgrow6)
          clear hown6 hgrow6 hbs hlen g0 g1 g2 g3 g4 g5 g6 f0 f1 f2 hT
          go_wp2
          go_roundw
          case rel => exact ⟨k + 1, _, by go_num, by omega, hL2, hT2⟩
          case measure => simp [intOf]; omega
      · have he2 : ¬ pv.toList = v.toList := fun h => hv (txt_inj h)
        have he1 : (pv.toList == v.toList) = false := by simpa using he2
        have hL2 : Hid (L = labelsQ (ps.take (k + 1)) v) := by
          show _ = _
          rw [hsn.out, if_neg (fun h => hv h.1), List.append_nil]
          exact hL.out
        clear hL hsn hv
        go_wp2
        go_roundw
        case rel => exact ⟨k + 1, L, by go_num, by omega, hL2, hT⟩
        case measure => simp [intOf]; omega
    · have hj1 : ¬ (k : Int) < (N0 : Int) := by omega
      have hL2 : Hid (L = labelsQ ps v) := by
        show _ = _
        rw [hL.out, List.take_of_length_le (by rw [← hM.out]; omega)]
      go_wp2
      go_ret
      obtain rfl := hL2.out
      obtain ⟨a, c, rfl⟩ := own_shape hT.out.row
      exact ⟨a, c, rfl, hT.out.row, hT.out.below⟩
set_option maxRecDepth 100000 in
set_option maxHeartbeats 3200000 in
theorem qlabelsQ_c (ps : List Pl) (v : ByteArray) (na : Option Addr) (N0 nc : Nat) (ea : Option Addr) (M0 ec : Nat) (ra : Option Addr) (R0 rc : Nat) (qc : Bool) (sk li : Int) (ct : Bool) (w : World) (hE : HoldsP w (.slice na N0 nc) ps) (hl : ps.length ≤ 90000) :
    Calls Try.prog 58 #[.agg #[.slice na N0 nc, .slice ea M0 ec, .slice ra R0 rc, .bool qc, .int .i64 sk, .int .i64 li, .bool ct], .string v] w fun e w' => ∃ a c, e = .returned (.slice a (labelsQ ps v).length c) ∧ w'.ownsRow (w.heap.size + 1) 9 1 (.slice a (labelsQ ps v).length c) (labelsQ ps v).length (tx (labelsQ ps v)) ∧ Below w.heap.size w w' := by
  obtain ⟨_, _, hv⟩ := hE.slice
  simp only [Value.slice.injEq] at hv
  obtain ⟨-, hM, -⟩ := hv
  rw [← hM] at hl
  replace hM := hidden hM
  replace hE := hidden hE
  obtain ⟨ix, hix, hx0, hx1, hx2⟩ := info_parts infoTxt
  have hT0 := hidden (TR.none0 w #[.slice na N0 nc, .slice ea M0 ec, .slice ra R0 rc, .bool qc, .int .i64 sk, .int .i64 li, .bool ct])
  obtain ⟨⟨q0, q1, q2, q3, q4, q5, q6⟩, -⟩ := box7q hT0.out.box
  go_enter Try.func58, Try.ntmps58
  go_wp2
  clear q0 q1 q2 q3 q4 q5 q6
  go_loopw [5, 11] (fun u i x => ∃ (k : Nat) (L : List ByteArray), i = .int .i64 k ∧ k ≤ N0 ∧ Hid (L = labelsQ (ps.take k) v) ∧ Hid (TR w x #[.slice na N0 nc, .slice ea M0 ec, .slice ra R0 rc, .bool qc, .int .i64 sk, .int .i64 li, .bool ct] u L)) (fun _ i _ => N0 - (intOf i).toNat)
  case atStart => exact ⟨0, [], rfl, Nat.zero_le _, rfl, hT0⟩
  case round =>
    clear hT0
    obtain ⟨k, L, rfl, hk, hL, hT⟩ := hrel
    obtain ⟨⟨g0, g1, g2, g3, g4, g5, g6⟩, -⟩ := box7q hT.out.box
    by_cases hlt : k < N0
    · have hj1 : (k : Int) < (N0 : Int) := by omega
      have hkp : k < ps.length := by rw [← hM.out]; exact hlt
      obtain ⟨b, off, pta, ptc, rfl, hb, c0, c1, c2, -⟩ := placeQ_at hE.out hkp
      have f0 := (hT.out.below.cell (p := ⟨b, off + k * 3, none⟩) hb).trans c0
      have f1 := (hT.out.below.cell (p := ⟨b, off + k * 3 + 1, none⟩) hb).trans c1
      have f2 := (hT.out.below.cell (p := ⟨b, off + k * 3 + 2, none⟩) hb).trans c2
      have hsn := hidden (labelsQ_snoc ps v k hkp)
      have hlen : Hid (L.length ≤ k) := by
        show _ ≤ _
        rw [hL.out]
        exact Nat.le_trans (labelsQ_le _ _) (by simp; omega)
      clear c0 c1 c2
      generalize ps.getD k Pl.none = pd at *
      obtain ⟨pv, s, pts⟩ := pd
      simp only at f0 f1 f2 hsn
      generalize pts.length = pn at *
      have hT1 := hidden (hT.out.step ((Below.refl _ _).alloc (Nat.le_refl _) (.cells #[.string pv, .string s, .slice pta pn ptc] 105)))
      have hP1 := hidden (heap_alloc_new wr (.cells #[.string pv, .string s, .slice pta pn ptc] 105))
      have hbs : Hid (w.heap.size + 1 ≤ (wr.alloc (.cells #[.string pv, .string s, .slice pta pn ptc] 105)).heap.size) := by show _ ≤ _; have := (Array.getElem?_eq_some_iff.1 hT.out.box).1; simp; omega
      have hys : Hid ((wr.alloc (.cells #[.string pv, .string s, .slice pta pn ptc] 105)).heap.size = wr.heap.size + 1) := hidden (by simp)
      generalize hya : wr.alloc (.cells #[.string pv, .string s, .slice pta pn ptc] 105) = y at *
      replace hya := hidden hya
      obtain ⟨⟨p0, p1, p2⟩, -⟩ := box3q hP1.out
      clear hT
      by_cases hv : pv = v
      · obtain rfl := hv.symm
        by_cases hs : s = ⟨#[]⟩
        · have hs1 : s.toList = [] := by rw [hs]; exact nil_txt
          have hs2 : s.toList.isEmpty = true := by rw [hs1]; rfl
          have hL2 : Hid (L = labelsQ (ps.take (k + 1)) v) := by
            show _ = _
            rw [hsn.out, if_neg (fun h => h.2 hs), List.append_nil]
            exact hL.out
          clear hL hsn hs
          go_wp2
          go_roundw
          case rel => exact ⟨k + 1, L, by go_num, by omega, hL2, by rw [hya.out]; exact hT1⟩
          case measure => simp [intOf]; omega
        · have hs1 : ¬ s.toList = [] := fun h => hs (txt_nil h)
          have hs2 : s.toList.isEmpty = false := by simpa using hs1
          have hL2 : Hid (L ++ [s] = labelsQ (ps.take (k + 1)) v) := by
            show _ = _
            rw [hsn.out, if_pos ⟨rfl, hs⟩, ← hL.out]
          clear hL hsn hs
          go_wp2_with (at_builtin; rw [hya.out]; go_loud (refine wpList_append_own _ rfl _ _ 72 rfl (w.heap.size + 1) 9 ix (.string ⟨#[]⟩) 1 16 Try.underlying72 hix hx0 hx1 hx2 rfl (by decide) u5 _ _ rfl (hT1.out.row.alloc _) ⟨wr.heap.size + 1, 0, none⟩ 1 1 [.string s] rfl rfl (by rw [← hys.out]; exact cells_new y [_] _) (by simp [Value.oneCell']) (by have := hlen.out; unfold maxLen; omega) (by have := hlen.out; omega) (by have := hbs.out; simp; omega) ?_); intro v' w6 hown6 hgrow6 _)
          have hT2 := hidden ((hT1.out.step ((Below.refl _ _).alloc (Nat.le_refl _) (.cells #[.string s] 9))).next hown6 hgrow6)
          clear hown6 hgrow6 hbs hlen g0 g1 g2 g3 g4 g5 g6 f0 f1 f2 hT1 hP1 hya hys p0 p1 p2
          go_wp2
          go_roundw
          case rel => exact ⟨k + 1, _, by go_num, by omega, hL2, hT2⟩
          case measure => simp [intOf]; omega
      · have he2 : ¬ pv.toList = v.toList := fun h => hv (txt_inj h)
        have he1 : (pv.toList == v.toList) = false := by simpa using he2
        have hL2 : Hid (L = labelsQ (ps.take (k + 1)) v) := by
          show _ = _
          rw [hsn.out, if_neg (fun h => hv h.1), List.append_nil]
          exact hL.out
        clear hL hsn hv
        go_wp2
        go_roundw
        case rel => exact ⟨k + 1, L, by go_num, by omega, hL2, by rw [hya.out]; exact hT1⟩
        case measure => simp [intOf]; omega
    · have hj1 : ¬ (k : Int) < (N0 : Int) := by omega
      have hL2 : Hid (L = labelsQ ps v) := by
        show _ = _
        rw [hL.out, List.take_of_length_le (by rw [← hM.out]; omega)]
      go_wp2
      go_ret
      obtain rfl := hL2.out
      obtain ⟨a, c, rfl⟩ := own_shape hT.out.row
      exact ⟨a, c, rfl, hT.out.row, hT.out.below⟩
end Go.Proofs.Ytnmjhbnadfjapaa
/-
  THE TESTS OF A QUERY ON A VARIABLE, by contract: the reference's and the program's.
-/
namespace Go.Proofs.Ytnmjhbnadfjapaa
open Go.ChangeShapes Go.WideShapes Go.ChangeAt Go.RowKit

theorem run_append_noneC {P : Program} {w : World} (base : Nat) (t ty e : TypeId) (i : TypeInfo) (size : Nat) (ht : P.underlying t = some (.slice e)) (hi : P.info? e = some i)
    (v : Value) (n c : Nat) (xs : List Value) (hown : w.ownsRow base e size v n xs) :
    (Builtin.append_ #[t, t] ty #[v, .slice none 0 c]).run P w = .ok v w := by
  rcases hown.2 with ⟨rfl, rfl⟩ | ⟨g, cap, cur, rfl, _, _, hnc, _⟩
  · simp [Builtin.append_, run_underlying ht, sizeOf, typeInfo, hi, Builtin.lenOf, Builtin.firstCells]
  · simp [Builtin.append_, run_underlying ht, sizeOf, typeInfo, hi, Builtin.lenOf, Builtin.firstCells, hnc, storeCells]
theorem wpList_append_noneC {P : Program} {w : World} {ops : Array Oper} {rest : List Oper} {o : Oper} {a : Act} {Q : Exit → Act → World → Prop} (hgd : o.guard = none) (s x : Operand) (t : TypeId)
    (ho : o.op = .call { callee := .builtin .append, args := #[s, x], argTypes := #[t, t] })
    (base : Nat) (e : TypeId) (i : TypeInfo) (size : Nat) (ht : P.underlying t = some (.slice e)) (hi : P.info? e = some i)
    (v : Value) (n c : Nat) (xs : List Value) (hs : a.eval s = v) (hown : w.ownsRow base e size v n xs) (hx : a.eval x = .slice none 0 c)
    (h : wpList P ops Q rest (a.put o.dst v) w) : wpList P ops Q (o :: rest) a w := by
  refine wpList_plain hgd fun K hK => ?_
  have hrun := run_append_noneC (P := P) (w := w) base t o.type e i size ht hi v n c xs hown
  unfold Oper.wp
  simp [execOp, ho, resolve, invoke, builtin, hs, hx, hrun, Result.andThen]
  exact hK _ _ h
/-- A row of tests that is being told, behind the box that holds the query. -/
structure TS (w x : World) (inp : Array Value) (v : Value) (L : List Tst) : Prop where
  below : Below w.heap.size w x
  box : x.heap[w.heap.size]? = some (.cells inp 74)
  row : x.ownsRow (w.heap.size + 1) 62 5 v L.length (testR.flat L)
theorem TS.step {w x z : World} {inp : Array Value} {v : Value} {L : List Tst} (h : TS w x inp v L) (hB : Below x.heap.size x z) : TS w z inp v L :=
  ⟨h.below.trans (hB.mono h.below.size), box_below h.box hB, owns_keep h.row hB⟩
theorem TS.next {w x z : World} {inp : Array Value} {v v' : Value} {L ts : List Tst} (h : TS w x inp v L) (hown : z.ownsRow (w.heap.size + 1) 62 5 v' (L.length + ts.length) (testR.flat L ++ testR.flat ts)) (hg : x.grownBy z v.ownBlock) : TS w z inp v' (L ++ ts) := by
  refine ⟨h.below.grown hg h.below.size (fun j hj => by have := (h.row.lt j hj).1; omega), box_grown h.box h.row (by decide) hg, ?_⟩
  rw [Rec.flat_app, List.length_append]
  exact hown
theorem TS.none0 (w : World) (inp : Array Value) : TS w (w.alloc (.cells inp 74)) inp (.slice none 0 0) [] :=
  ⟨(Below.refl _ _).alloc (Nat.le_refl _) _, heap_alloc_new _ _, World.ownsRow_nil ..⟩
theorem TS.made0 (w : World) (inp : Array Value) : TS w ((w.alloc (.cells inp 74)).alloc (.cells #[] 62)) inp (.slice (some ⟨w.heap.size + 1, 0, none⟩) 0 0) [] := by
  refine ⟨((Below.refl _ _).alloc (Nat.le_refl _) _).alloc (by simp) _, (heap_alloc_old _ _ (by simp)).trans (heap_alloc_new _ _), ?_⟩
  have h := World.ownsRow_lit (base := w.heap.size + 1) (e := 62) (size := 5) (w.alloc (.cells inp 74)) #[] 0 (by simp) (by decide) rfl
  rw [show (w.alloc (.cells inp 74)).heap.size = w.heap.size + 1 by simp] at h
  exact h
theorem flat_len (ts : List Tst) : (testR.flat ts).length = ts.length * 5 := by
  induction ts with
  | nil => rfl
  | cons a l ih => show (testR.enc a ++ testR.flat l).length = _; rw [List.length_append, ih]; simp [testR]; omega
theorem tests_one (ts : List Tst) : ∀ u ∈ testR.flat ts, u.oneCell' = true := by
  induction ts with
  | nil => intro u hu; cases hu
  | cons a l ih =>
    intro u hu
    rcases List.mem_append.1 (show u ∈ testR.enc a ++ testR.flat l from hu) with h | h
    · simp [testR] at h; rcases h with rfl | rfl | rfl | rfl | rfl <;> rfl
    · exact ih u h
theorem row_news {w : World} {ad : Addr} {xs : List Value} (h : RowAt w (some ad) xs) : ∀ j u, xs[j]? = some u → w.cell? (ad.add j) = some u := by
  rcases h with rfl | ⟨b, off, he, _, hc⟩
  · intro j u hj; simp at hj
  · cases he
    intro j u hj
    by_cases hj0 : j = 0
    · subst hj0
      simpa [Addr.add] using hc 0 u hj
    · simpa [Addr.add, hj0] using hc j u hj
theorem row_none {w : World} {ts : List Tst} (h : RowAt w none (testR.flat ts)) : ts = [] ∧ True := by
  rcases h with h | ⟨b, off, he, _⟩
  · have := congrArg List.length h
    rw [flat_len] at this
    exact ⟨List.eq_nil_of_length_eq_zero (by simp at this; omega), trivial⟩
  · cases he
def testsQ (ps : List Pl) (v : ByteArray) : List Tst := (ps.filter fun p => decide (p.v = v)).flatMap Pl.ts
theorem testsQ_snoc (ps : List Pl) (v : ByteArray) (k : Nat) (hk : k < ps.length) : testsQ (ps.take (k + 1)) v = testsQ (ps.take k) v ++ if (ps.getD k Pl.none).v = v then (ps.getD k Pl.none).ts else [] := by
  unfold testsQ
  rw [take_snocR ps Pl.none k hk, List.filter_append, List.flatMap_append]
  generalize ps.getD k Pl.none = p
  by_cases h : p.v = v
  · rw [if_pos h, List.filter_cons_of_pos (by simpa using h)]; simp
  · rw [if_neg h, List.filter_cons_of_neg (by simpa using h)]; rfl

set_option maxRecDepth 100000 in
set_option maxHeartbeats 3200000 in
theorem rtestsQ_c (ps : List Pl) (v : ByteArray) (na : Option Addr) (N0 nc : Nat) (ea : Option Addr) (M0 ec : Nat) (ra : Option Addr) (R0 rc : Nat) (qc : Bool) (sk li : Int) (ct : Bool) (w : World) (hE : HoldsP w (.slice na N0 nc) ps) (hl : ps.length ≤ 90000) (hall : ∀ k, (testsQ (ps.take k) v).length ≤ 90000) :
    Calls Try.prog 61 #[.agg #[.slice na N0 nc, .slice ea M0 ec, .slice ra R0 rc, .bool qc, .int .i64 sk, .int .i64 li, .bool ct], .string v] w fun e w' => ∃ a c, e = .returned (.slice a (testsQ ps v).length c) ∧ w'.ownsRow (w.heap.size + 1) 62 5 (.slice a (testsQ ps v).length c) (testsQ ps v).length (testR.flat (testsQ ps v)) ∧ Below w.heap.size w w' := by
  obtain ⟨_, _, hv⟩ := hE.slice
  simp only [Value.slice.injEq] at hv
  obtain ⟨-, hM, -⟩ := hv
  rw [← hM] at hl
  replace hM := hidden hM
  replace hE := hidden hE
  replace hall := hidden hall
  obtain ⟨it, hit, ht0, ht1, ht2⟩ := info_parts infoTs
  have hT0 := hidden (TS.made0 w #[.slice na N0 nc, .slice ea M0 ec, .slice ra R0 rc, .bool qc, .int .i64 sk, .int .i64 li, .bool ct])
  obtain ⟨⟨q0, q1, q2, q3, q4, q5, q6⟩, -⟩ := box7q hT0.out.box
  go_enter Try.func61, Try.ntmps61
  go_wp2
  clear q0 q1 q2 q3 q4 q5 q6
  go_loopw [5, 6] (fun u i x => ∃ (k : Nat) (L : List Tst), i = .int .i64 k ∧ k ≤ N0 ∧ Hid (L = testsQ (ps.take k) v) ∧ Hid (TS w x #[.slice na N0 nc, .slice ea M0 ec, .slice ra R0 rc, .bool qc, .int .i64 sk, .int .i64 li, .bool ct] u L)) (fun _ i _ => N0 - (intOf i).toNat)
  case atStart => exact ⟨0, [], rfl, Nat.zero_le _, rfl, hT0⟩
  case round =>
    clear hT0
    obtain ⟨k, L, rfl, hk, hL, hT⟩ := hrel
    obtain ⟨⟨g0, g1, g2, g3, g4, g5, g6⟩, -⟩ := box7q hT.out.box
    by_cases hlt : k < N0
    · have hj1 : (k : Int) < (N0 : Int) := by omega
      have hkp : k < ps.length := by rw [← hM.out]; exact hlt
      obtain ⟨b, off, pta, ptc, rfl, hb, c0, c1, c2, htr⟩ := placeQ_at hE.out hkp
      have f0 := (hT.out.below.cell (p := ⟨b, off + k * 3, none⟩) hb).trans c0
      have f1 := (hT.out.below.cell (p := ⟨b, off + k * 3 + 1, none⟩) hb).trans c1
      have f2 := (hT.out.below.cell (p := ⟨b, off + k * 3 + 2, none⟩) hb).trans c2
      have hsn := hidden (testsQ_snoc ps v k hkp)
      have hlen := hidden (hall.out (k + 1))
      clear c0 c1 c2
      generalize ps.getD k Pl.none = pd at *
      obtain ⟨pv, s, pts⟩ := pd
      simp only at f0 f1 f2 hsn htr
      have htr2 := hidden (htr.below hT.out.below)
      clear htr
      obtain ⟨pn, hpn⟩ : ∃ pn, Hid (pn = pts.length) := ⟨_, hidden rfl⟩
      rw [← hpn.out] at f2
      have hbs : Hid (w.heap.size + 1 ≤ wr.heap.size) := by show _ ≤ _; have := (Array.getElem?_eq_some_iff.1 hT.out.box).1; omega
      by_cases hv : pv = v
      · obtain rfl := hv.symm
        have hL2 : Hid (L ++ pts = testsQ (ps.take (k + 1)) v) := by
          show _ = _
          rw [hsn.out, if_pos rfl, ← hL.out]
        have hlen2 : Hid (L.length + pn ≤ 90000) := by
          have h := hlen.out
          rw [← hL2.out, List.length_append, ← hpn.out] at h
          exact h
        clear hL hsn hlen
        cases pta with
        | none =>
          obtain ⟨rfl, h0⟩ := row_none htr2.out
          obtain rfl : pn = 0 := by rw [hpn.out]; rfl
          clear h0
          go_wp2_with (at_builtin; go_loud (refine wpList_append_noneC rfl _ _ 65 rfl (w.heap.size + 1) 62 it 5 Try.underlying65 hit u5 _ _ _ rfl hT.out.row rfl ?_))
          rw [List.append_nil] at hL2
          go_roundw
          case rel => exact ⟨k + 1, L, by go_num, by omega, hL2, hT⟩
          case measure => simp [intOf]; omega
        | some ad =>
          have hnw := hidden (row_news htr2.out)
          go_wp2_with (at_builtin; go_loud (refine wpList_append_own _ rfl _ _ 65 rfl (w.heap.size + 1) 62 it (.agg #[.string ⟨#[]⟩, .int .i64 0, .int .i64 0, .int .i64 0, .string ⟨#[]⟩]) 5 56 Try.underlying65 hit ht0 ht1 ht2 rfl (by decide) u5 _ _ rfl hT.out.row ad pn ptc (testR.flat pts) rfl (by rw [hpn.out, flat_len]) hnw.out (tests_one pts) (by have := hlen2.out; unfold maxLen; omega) (by have := hlen2.out; omega) (by have := hbs.out; exact this) ?_); intro v' w6 hown6 hgrow6 _)
          rw [hpn.out] at hown6
          have hT2 := hidden (hT.out.next hown6 hgrow6)
          clear hown6 hgrow6 hbs hlen2 g0 g1 g2 g3 g4 g5 g6 f0 f1 f2 hnw hT
          go_wp2
          go_roundw
          case rel => exact ⟨k + 1, _, by go_num, by omega, hL2, hT2⟩
          case measure => simp [intOf]; omega
      · have he2 : ¬ pv.toList = v.toList := fun h => hv (txt_inj h)
        have he1 : (pv.toList == v.toList) = false := by simpa using he2
        have hL2 : Hid (L = testsQ (ps.take (k + 1)) v) := by
          show _ = _
          rw [hsn.out, if_neg hv, List.append_nil]
          exact hL.out
        clear hL hsn hv
        go_wp2
        go_roundw
        case rel => exact ⟨k + 1, L, by go_num, by omega, hL2, hT⟩
        case measure => simp [intOf]; omega
    · have hj1 : ¬ (k : Int) < (N0 : Int) := by omega
      have hL2 : Hid (L = testsQ ps v) := by
        show _ = _
        rw [hL.out, List.take_of_length_le (by rw [← hM.out]; omega)]
      go_wp2
      go_ret
      obtain rfl := hL2.out
      obtain ⟨a, c, rfl⟩ := own_shape hT.out.row
      exact ⟨a, c, rfl, hT.out.row, hT.out.below⟩
set_option maxRecDepth 100000 in
set_option maxHeartbeats 3200000 in
theorem qtestsQ_c (ps : List Pl) (v : ByteArray) (na : Option Addr) (N0 nc : Nat) (ea : Option Addr) (M0 ec : Nat) (ra : Option Addr) (R0 rc : Nat) (qc : Bool) (sk li : Int) (ct : Bool) (w : World) (hE : HoldsP w (.slice na N0 nc) ps) (hl : ps.length ≤ 90000) (hall : ∀ k, (testsQ (ps.take k) v).length ≤ 90000) :
    Calls Try.prog 59 #[.agg #[.slice na N0 nc, .slice ea M0 ec, .slice ra R0 rc, .bool qc, .int .i64 sk, .int .i64 li, .bool ct], .string v] w fun e w' => ∃ a c, e = .returned (.slice a (testsQ ps v).length c) ∧ w'.ownsRow (w.heap.size + 1) 62 5 (.slice a (testsQ ps v).length c) (testsQ ps v).length (testR.flat (testsQ ps v)) ∧ Below w.heap.size w w' := by
  obtain ⟨_, _, hv⟩ := hE.slice
  simp only [Value.slice.injEq] at hv
  obtain ⟨-, hM, -⟩ := hv
  rw [← hM] at hl
  replace hM := hidden hM
  replace hE := hidden hE
  replace hall := hidden hall
  obtain ⟨it, hit, ht0, ht1, ht2⟩ := info_parts infoTs
  have hT0 := hidden (TS.none0 w #[.slice na N0 nc, .slice ea M0 ec, .slice ra R0 rc, .bool qc, .int .i64 sk, .int .i64 li, .bool ct])
  obtain ⟨⟨q0, q1, q2, q3, q4, q5, q6⟩, -⟩ := box7q hT0.out.box
  go_enter Try.func59, Try.ntmps59
  go_wp2
  clear q0 q1 q2 q3 q4 q5 q6
  go_loopw [5, 11] (fun u i x => ∃ (k : Nat) (L : List Tst), i = .int .i64 k ∧ k ≤ N0 ∧ Hid (L = testsQ (ps.take k) v) ∧ Hid (TS w x #[.slice na N0 nc, .slice ea M0 ec, .slice ra R0 rc, .bool qc, .int .i64 sk, .int .i64 li, .bool ct] u L)) (fun _ i _ => N0 - (intOf i).toNat)
  case atStart => exact ⟨0, [], rfl, Nat.zero_le _, rfl, hT0⟩
  case round =>
    clear hT0
    obtain ⟨k, L, rfl, hk, hL, hT⟩ := hrel
    obtain ⟨⟨g0, g1, g2, g3, g4, g5, g6⟩, -⟩ := box7q hT.out.box
    by_cases hlt : k < N0
    · have hj1 : (k : Int) < (N0 : Int) := by omega
      have hkp : k < ps.length := by rw [← hM.out]; exact hlt
      obtain ⟨b, off, pta, ptc, rfl, hb, c0, c1, c2, htr⟩ := placeQ_at hE.out hkp
      have f0 := (hT.out.below.cell (p := ⟨b, off + k * 3, none⟩) hb).trans c0
      have f1 := (hT.out.below.cell (p := ⟨b, off + k * 3 + 1, none⟩) hb).trans c1
      have f2 := (hT.out.below.cell (p := ⟨b, off + k * 3 + 2, none⟩) hb).trans c2
      have hsn := hidden (testsQ_snoc ps v k hkp)
      have hlen := hidden (hall.out (k + 1))
      clear c0 c1 c2
      generalize ps.getD k Pl.none = pd at *
      obtain ⟨pv, s, pts⟩ := pd
      simp only at f0 f1 f2 hsn htr
      have htr2 := hidden (htr.below hT.out.below)
      clear htr
      obtain ⟨pn, hpn⟩ : ∃ pn, Hid (pn = pts.length) := ⟨_, hidden rfl⟩
      rw [← hpn.out] at f2
      have hT1 := hidden (hT.out.step ((Below.refl _ _).alloc (Nat.le_refl _) (.cells #[.string pv, .string s, .slice pta pn ptc] 105)))
      have htr3 := hidden (htr2.out.below ((Below.refl _ _).alloc (Nat.le_refl _) (.cells #[.string pv, .string s, .slice pta pn ptc] 105)))
      have hP1 := hidden (heap_alloc_new wr (.cells #[.string pv, .string s, .slice pta pn ptc] 105))
      have hbs : Hid (w.heap.size + 1 ≤ (wr.alloc (.cells #[.string pv, .string s, .slice pta pn ptc] 105)).heap.size) := by show _ ≤ _; have := (Array.getElem?_eq_some_iff.1 hT.out.box).1; simp; omega
      generalize hya : wr.alloc (.cells #[.string pv, .string s, .slice pta pn ptc] 105) = y at *
      replace hya := hidden hya
      obtain ⟨⟨p0, p1, p2⟩, -⟩ := box3q hP1.out
      clear hT htr2
      by_cases hv : pv = v
      · obtain rfl := hv.symm
        have hL2 : Hid (L ++ pts = testsQ (ps.take (k + 1)) v) := by
          show _ = _
          rw [hsn.out, if_pos rfl, ← hL.out]
        have hlen2 : Hid (L.length + pn ≤ 90000) := by
          have h := hlen.out
          rw [← hL2.out, List.length_append, ← hpn.out] at h
          exact h
        clear hL hsn hlen
        cases pta with
        | none =>
          obtain ⟨rfl, h0⟩ := row_none htr3.out
          obtain rfl : pn = 0 := by rw [hpn.out]; rfl
          clear h0
          go_wp2_with (at_builtin; rw [hya.out]; go_loud (refine wpList_append_noneC rfl _ _ 65 rfl (w.heap.size + 1) 62 it 5 Try.underlying65 hit u5 _ _ _ rfl hT1.out.row rfl ?_))
          rw [List.append_nil] at hL2
          go_roundw
          case rel => exact ⟨k + 1, L, by go_num, by omega, hL2, by first | exact hT1 | (rw [hya.out]; exact hT1)⟩
          case measure => simp [intOf]; omega
        | some ad =>
          have hnw := hidden (row_news htr3.out)
          go_wp2_with (at_builtin; rw [hya.out]; go_loud (refine wpList_append_own _ rfl _ _ 65 rfl (w.heap.size + 1) 62 it (.agg #[.string ⟨#[]⟩, .int .i64 0, .int .i64 0, .int .i64 0, .string ⟨#[]⟩]) 5 56 Try.underlying65 hit ht0 ht1 ht2 rfl (by decide) u5 _ _ rfl hT1.out.row ad pn ptc (testR.flat pts) rfl (by rw [hpn.out, flat_len]) hnw.out (tests_one pts) (by have := hlen2.out; unfold maxLen; omega) (by have := hlen2.out; omega) (by have := hbs.out; exact this) ?_); intro v' w6 hown6 hgrow6 _)
          rw [hpn.out] at hown6
          have hT2 := hidden (hT1.out.next hown6 hgrow6)
          clear hown6 hgrow6 hbs hlen2 g0 g1 g2 g3 g4 g5 g6 f0 f1 f2 hnw hT1 hP1 p0 p1 p2
          go_wp2
          go_roundw
          case rel => exact ⟨k + 1, _, by go_num, by omega, hL2, hT2⟩
          case measure => simp [intOf]; omega
      · have he2 : ¬ pv.toList = v.toList := fun h => hv (txt_inj h)
        have he1 : (pv.toList == v.toList) = false := by simpa using he2
        have hL2 : Hid (L = testsQ (ps.take (k + 1)) v) := by
          show _ = _
          rw [hsn.out, if_neg hv, List.append_nil]
          exact hL.out
        clear hL hsn hv
        go_wp2
        go_roundw
        case rel => exact ⟨k + 1, L, by go_num, by omega, hL2, by first | exact hT1 | (rw [hya.out]; exact hT1)⟩
        case measure => simp [intOf]; omega
    · have hj1 : ¬ (k : Int) < (N0 : Int) := by omega
      have hL2 : Hid (L = testsQ ps v) := by
        show _ = _
        rw [hL.out, List.take_of_length_le (by rw [← hM.out]; omega)]
      go_wp2
      go_ret
      obtain rfl := hL2.out
      obtain ⟨a, c, rfl⟩ := own_shape hT.out.row
      exact ⟨a, c, rfl, hT.out.row, hT.out.below⟩
end Go.Proofs.Ytnmjhbnadfjapaa
