/-
  THE LAW MeterJoins, with lives() as a premise.
-/
import Derived.Test.YtoijkbnjcnedjaaDoorMetL
namespace Go.Proofs.YtoijkbnjcnedjaaDoor
open Go.ChangeShapes Go.WideShapes Go.ChangeAt Go.RowKit Go.Maps

def OnlyE (id : Nat) (R : Act → World → Prop) : Exit → Act → World → Prop
  | .exit i, a, w => i = id ∧ R a w
  | _, _, _ => False
theorem wp_onlyE {P : Program} {C : Code} {Q : Exit → Act → World → Prop} {a : Act} {w : World} (id : Nat) (R : Act → World → Prop) (h : C.wp P (OnlyE id R) a w) (hq : ∀ a' w', R a' w' → Q (.exit id) a' w') : C.wp P Q a w :=
  Code.wp_mono (fun e a w h => match e, h with | .exit _, ⟨hi, h⟩ => hi ▸ hq a w h | .normal, h => h.elim | .goto _, h => h.elim | .ret, h => h.elim | .panic _, h => h.elim | .outgrown, h => h.elim) h
theorem mj_start (w x y : World) (most : Int) (h1 : MtAt x (w.heap.size + 1) w.heap.size 0 (.map []) most []) (hB1 : Below w.heap.size w x) (hz1 : x.heap.size = w.heap.size + 2) (h2 : MtAt y (x.heap.size + 1) x.heap.size 0 (.map []) 1000000000000 []) (hB2 : Below x.heap.size x y) (hz2 : y.heap.size = x.heap.size + 2) :
    MJ w ((y.alloc (.cells #[.slice none 0 0, .int .i64 most] 31)).alloc (.cells #[.slice none 0 0, .int .i64 1000000000000] 31)) 0 (.map []) 0 (.map []) most [] [] [] [] none 0 none 0 := by
  have hy : y.heap.size = w.heap.size + 4 := by omega
  have hBa := ((Below.refl y.heap.size y).alloc (Nat.le_refl _) (.cells #[.slice none 0 0, .int .i64 most] 31)).alloc (by simp) (.cells #[.slice none 0 0, .int .i64 1000000000000] 31)
  have hBy : Below w.heap.size w y := hB1.trans (hB2.mono hB1.size)
  rw [hz1] at h2
  refine ⟨hBy.trans (hBa.mono hBy.size), (h1.below hB2).below hBa, h2.below hBa, ⟨?_, World.ownsRow_nil .., by omega⟩, ⟨?_, World.ownsRow_nil .., by omega⟩, by simp; omega, fun g hg => by cases hg⟩
  · have h := (heap_alloc_old (y.alloc (.cells #[.slice none 0 0, .int .i64 most] 31)) (.cells #[.slice none 0 0, .int .i64 1000000000000] 31) (r := y.heap.size) (by simp)).trans (heap_alloc_new y _)
    rw [hy] at h
    exact h
  · have h := heap_alloc_new (y.alloc (.cells #[.slice none 0 0, .int .i64 most] 31)) (.cells #[.slice none 0 0, .int .i64 1000000000000] 31)
    rw [show (y.alloc (.cells #[.slice none 0 0, .int .i64 most] 31)).heap.size = w.heap.size + 5 by simp; omega] at h
    exact h
theorem owns_tx' {w : World} {B t n c : Nat} {a : Option Addr} {L : List ByteArray} (h : w.ownsRow B t 1 (.slice a n c) n (tx L)) : RowAt w a (tx L) := by
  obtain ⟨a', c', he, hr⟩ := holds_of_owns h
  simp only [Value.slice.injEq] at he
  obtain ⟨rfl, _, _⟩ := he
  exact hr
theorem list_get {n : Nat} {l : List Value} (h : l.length = n) : l = (List.range n).map fun i => l.getD i undef := by
  refine List.ext_getElem (by simp [h]) fun i h1 h2 => ?_
  simp [List.getD, h1]
theorem list174 {l : List Value} (h : l.length = 174) : ∃ u : Nat → Value, l = [u 0, u 1, u 2, u 3, u 4, u 5, u 6, u 7, u 8, u 9, u 10, u 11, u 12, u 13, u 14, u 15, u 16, u 17, u 18, u 19, u 20, u 21, u 22, u 23, u 24, u 25, u 26, u 27, u 28, u 29, u 30, u 31, u 32, u 33, u 34, u 35, u 36, u 37, u 38, u 39, u 40, u 41, u 42, u 43, u 44, u 45, u 46, u 47, u 48, u 49, u 50, u 51, u 52, u 53, u 54, u 55, u 56, u 57, u 58, u 59, u 60, u 61, u 62, u 63, u 64, u 65, u 66, u 67, u 68, u 69, u 70, u 71, u 72, u 73, u 74, u 75, u 76, u 77, u 78, u 79, u 80, u 81, u 82, u 83, u 84, u 85, u 86, u 87, u 88, u 89, u 90, u 91, u 92, u 93, u 94, u 95, u 96, u 97, u 98, u 99, u 100, u 101, u 102, u 103, u 104, u 105, u 106, u 107, u 108, u 109, u 110, u 111, u 112, u 113, u 114, u 115, u 116, u 117, u 118, u 119, u 120, u 121, u 122, u 123, u 124, u 125, u 126, u 127, u 128, u 129, u 130, u 131, u 132, u 133, u 134, u 135, u 136, u 137, u 138, u 139, u 140, u 141, u 142, u 143, u 144, u 145, u 146, u 147, u 148, u 149, u 150, u 151, u 152, u 153, u 154, u 155, u 156, u 157, u 158, u 159, u 160, u 161, u 162, u 163, u 164, u 165, u 166, u 167, u 168, u 169, u 170, u 171, u 172, u 173] := ⟨fun i => l.getD i undef, list_get h⟩
theorem kept0 (most : Int) (h : 0 ≤ most) (k : Nat) : Kept most [] k none 0 := ⟨⟨List.Pairwise.nil, fun _ h => (by cases h), h⟩, fun _ h => (by cases h), Nat.zero_le _, fun _ => ⟨rfl, rfl⟩⟩
set_option maxHeartbeats 6400000 in
set_option maxRecDepth 100000 in
theorem law_c (ps qs : List Ac) (pa : Option Addr) (NA pc : Nat) (qa : Option Addr) (NB qc : Nat) (most : Int) (w : World) (hP : HoldsR acR w (.slice pa NA pc) ps) (hQ : HoldsR acR w (.slice qa NB qc) qs) (hN : ps.length ≤ maxLen) (hM : qs.length ≤ maxLen)
    (hT : ∀ x, Below w.heap.size w x → Lib.TabIs Tryd.prog x "internal/strconv.uint64pow10" .u64 Lib.pow10Tab)
    (hlv : ∀ x, GoX.Calm w x → Calls Tryd.prog 6 #[] x fun e w' => e = .returned (.bool true) ∧ GoX.Calm x w') :
    Calls Tryd.prog 3 #[.slice pa NA pc, .slice qa NB qc, .int .i64 most] w fun e w' => e = .returned (.bool true) ∧ GoX.Calm w w' := by
  unfold maxLen at hN hM
  obtain ⟨pa', pc', he, hPr⟩ := hP
  simp only [Value.slice.injEq] at he
  obtain ⟨rfl, rfl, rfl⟩ := he
  obtain ⟨qa', qc', he, hQr⟩ := hQ
  simp only [Value.slice.injEq] at he
  obtain ⟨rfl, rfl, rfl⟩ := he
  obtain ⟨NA, hNA⟩ : ∃ NA, NA = ps.length := ⟨_, rfl⟩
  obtain ⟨NB, hNB⟩ : ∃ NB, NB = qs.length := ⟨_, rfl⟩
  rw [← hNA, ← hNB]
  rw [← hNA] at hN
  rw [← hNB] at hM
  replace hNA := hidden hNA
  replace hNB := hidden hNB
  replace hPr := hidden hPr
  replace hQr := hidden hQr
  replace hT := hidden hT
  replace hlv := hidden hlv
  have hnO : ∀ z, Calls Tryd.prog 5 #[.int .i64 1000000000000] z fun e w' => ∃ bo : Nat, e = .returned (.tuple #[.pointer (some ⟨bo, 0, none⟩), .int .i64 0]) ∧ Hid (bo = z.heap.size + 1) ∧ Hid (MtAt w' (z.heap.size + 1) z.heap.size 0 (.map []) 1000000000000 []) ∧ Hid (Below z.heap.size z w') ∧ Hid (w'.heap.size = z.heap.size + 2) := fun z => (mnew_c 1000000000000 z (by decide) (by decide)).mono fun e w' ⟨he, h1, h2, h3⟩ => ⟨_, he, hidden rfl, h1, h2, h3⟩
  by_cases hrange : most < 0 ∨ 1000000000000 < most
  case pos =>
    have hnone := mnewNone_c most w hrange
    clear hrange
    go_enter Tryd.func3, Tryd.ntmps3
    go_wp2_with fail
    refine hnone.mono ?_
    rintro e z ⟨rfl, rfl⟩
    go_wp2_with fail
    refine (hnO _).mono ?_
    rintro e x ⟨bo, rfl, -, -, hBx, -⟩
    go_wp2_with fail
    refine (hlv.out _ (GoX.Calm.of_below hBx.out)).mono ?_
    rintro e y ⟨rfl, hc⟩
    go_wp2
    go_ret
    exact ⟨rfl, (GoX.Calm.of_below hBx.out).trans hc⟩
  case neg =>
  have hm0 : 0 ≤ most := by omega
  have hm2 : most ≤ 1000000000000 := by omega
  have hnM := mnew_c most w hm0 hm2
  clear hrange
  go_enter Tryd.func3, Tryd.ntmps3
  go_wp2_with fail
  refine hnM.mono ?_
  rintro e w1 ⟨rfl, hA1, hB1, hz1⟩
  go_wp2_with fail
  refine (hnO _).mono ?_
  rintro e w2 ⟨bo, rfl, hbo, hA2, hB2, hz2⟩
  obtain rfl : bo = w.heap.size + 3 := by have := hbo.out; have := hz1.out; omega
  have hJ := hidden (mj_start w w1 w2 most hA1.out hB1.out hz1.out hA2.out hB2.out hz2.out)
  have hKx : Hid (Kept most [] 0 none 0) := kept0 most hm0 0
  have hKy : Hid (Kept 1000000000000 [] 0 none 0) := kept0 _ (by decide) 0
  have e2 : Hid (w2.heap.size = w.heap.size + 4) := by show _ = _; have := hz2.out; have := hz1.out; omega
  have e3 : Hid (w2.heap.size + 1 = w.heap.size + 5) := by show _ = _; have := e2.out; omega
  clear hA1 hA2 hnM hnO hB1 hB2 hz1 hz2 hbo
  go_wp2_with fail
  rw [e3.out, e2.out]
  clear e2 e3
  obtain ⟨R1, hR1⟩ : ∃ R : Act → World → Prop, Hid (∀ a' x, R a' x ↔ (∃ l, a' = ({ tmps := List.toArray ((.slice pa NA pc) :: (.slice qa NB qc) :: (.int .i64 most) :: undef :: undef :: undef :: (.bool false) :: (.pointer (some ⟨w.heap.size + 1, 0, none⟩)) :: (.int .i64 0) :: (.pointer (some ⟨w.heap.size + 3, 0, none⟩)) :: (.int .i64 0) :: (.pointer (some ⟨w.heap.size + 4, 0, none⟩)) :: (.pointer (some ⟨w.heap.size + 5, 0, none⟩)) :: l), defers := [] } : Act) ∧ l.length = 174 ∧ ∃ (nm : Nat) (Dm : DataW Unit) (no : Nat) (Do : DataW Unit) (L M : List Ct) (ax : Option Addr) (cx : Nat) (ay : Option Addr) (cy : Nat), Hid (MJ w x nm Dm no Do most L M L M ax cx ay cy) ∧ Hid (Kept most L 12 ax cx) ∧ Hid (Kept 1000000000000 M 0 ay cy) ∧ nm ≤ 12 ∧ no ≤ 0)) := ⟨_, hidden fun _ _ => Iff.rfl⟩
  obtain ⟨R2, hR2⟩ : ∃ R : Act → World → Prop, Hid (∀ a' x, R a' x ↔ (∃ l, a' = ({ tmps := List.toArray ((.slice pa NA pc) :: (.slice qa NB qc) :: (.int .i64 most) :: undef :: undef :: undef :: (.bool false) :: (.pointer (some ⟨w.heap.size + 1, 0, none⟩)) :: (.int .i64 0) :: (.pointer (some ⟨w.heap.size + 3, 0, none⟩)) :: (.int .i64 0) :: (.pointer (some ⟨w.heap.size + 4, 0, none⟩)) :: (.pointer (some ⟨w.heap.size + 5, 0, none⟩)) :: l), defers := [] } : Act) ∧ l.length = 174 ∧ ∃ (nm : Nat) (Dm : DataW Unit) (no : Nat) (Do : DataW Unit) (L M : List Ct) (ax : Option Addr) (cx : Nat) (ay : Option Addr) (cy : Nat), Hid (MJ w x nm Dm no Do most L M L M ax cx ay cy) ∧ Hid (Kept most L 12 ax cx) ∧ Hid (Kept 1000000000000 M 12 ay cy) ∧ nm ≤ 12 ∧ no ≤ 12)) := ⟨_, hidden fun _ _ => Iff.rfl⟩
  refine wp_onlyE 0 R1 ?h1 ?q1
  case h1 =>
    go_loopw [13] (fun i x => ∃ (nm : Nat) (Dm : DataW Unit) (no : Nat) (Do : DataW Unit) (L M : List Ct) (ax : Option Addr) (cx : Nat) (ay : Option Addr) (cy : Nat) (k : Nat), i = .int .i64 k ∧ k ≤ NA ∧ k ≤ 12 ∧ Hid (MJ w x nm Dm no Do most L M L M ax cx ay cy) ∧ Hid (Kept most L k ax cx) ∧ Hid (Kept 1000000000000 M 0 ay cy) ∧ nm ≤ k ∧ no ≤ 0) (fun i _ => NA - (intOf i).toNat)
    case atStart => exact ⟨_, _, _, _, _, _, _, _, _, _, 0, rfl, Nat.zero_le _, Nat.zero_le _, hJ, hKx, hKy, Nat.le_refl _, Nat.le_refl _⟩
    case round =>
      clear hJ hKx hKy 
      obtain ⟨nm, Dm, no, Do, L, M, ax, cx, ay, cy, k, rfl, hk, hk12, hJ, hKx, hKy, hnm, hno⟩ := hrel
      by_cases hlt : k < NA ∧ k < 12
      · obtain ⟨hlt1, hlt2⟩ := hlt
        have hi1 : (k : Int) < (NA : Int) := by omega
        have hi2 : (k : Int) < 12 := by omega
        have hkp : k < ps.length := by rw [← hNA.out]; exact hlt1
        obtain ⟨b, off, rfl, hb, c0, c1, c2⟩ := ac_at hPr.out hkp
        have f1 := (hJ.out.below.cell (p := ⟨b, off + k * 3 + 1, none⟩) hb).trans c1
        have f2 := (hJ.out.below.cell (p := ⟨b, off + k * 3 + 2, none⟩) hb).trans c2
        have hcn := fun z => cut_c (ps.getD k Ac.none).s 40 z (by decide)
        have hsz : (cutB (ps.getD k Ac.none).s 40).size ≤ 40 := cutB_size _ _
        have hcell2 := hidden (fun z (hz : Below w.heap.size w z) => (hz.cell (p := ⟨b, off + k * 3 + 2, none⟩) hb).trans c2)
        clear c0 c1 c2
        generalize (ps.getD k Ac.none).s = sn at *
        generalize (ps.getD k Ac.none).n = kn at *
        generalize cutB sn 40 = cs at *
        have hadd := madd_c cs kn wr hJ.out.m hKx.out.fine hm0 hm2 hsz (by omega) (by omega)
        go_wp2_with fail
        refine (hcn _).mono ?_
        rintro e z ⟨rfl, rfl⟩
        go_wp2_with fail
        refine hadd.mono ?_
        rintro e x1 ⟨n', D', rfl, hm1, hs1, hn1⟩
        have hJ1 := hidden (hJ.out.addM hm1.out hs1.out)
        have f3 := hcell2.out x1 hJ1.out.below
        have hradd := radd_c cs kn x1 hJ1.out.xr hKx.out.nil hJ1.out.hB hKx.out.fine hm0 hm2 hsz (by have := hKx.out.len; omega)
        have hn1' := hn1.out
        clear hadd hm1 hs1 hJ f1 f2 hn1 hcn
        go_wp2_with fail
        refine hradd.mono ?_
        rintro e x2 ⟨a', c', rfl, hr1, hnil1, hs2, hgr⟩
        have hJ2 := hidden (hJ1.out.addX hr1 hs2 hgr)
        have hK2 := hidden (hKx.out.add hsz hnil1)
        clear hradd hr1 hs2 hgr hnil1 hJ1 f3 hcell2
        go_wp2
        go_roundw
        case rel => exact ⟨_, _, _, _, _, _, _, _, _, _, k + 1, by go_num, by omega, by omega, hJ2, hK2, hKy, by omega, by omega⟩
        case measure => simp [intOf]; omega
      · have hg12 : Hid (k ≤ 12) := hk12
        by_cases hlt3 : k < NA
        all_goals
          first
            | (have hi3 : ¬ (k : Int) < 12 := by omega)
            | (have hi3 : ¬ (k : Int) < (NA : Int) := by omega)
          first
            | (have hi4 : (k : Int) < (NA : Int) := by omega)
            | skip
          clear hlt
          go_wp2
          refine ⟨rfl, (hR1.out _ _).2 ⟨_, rfl, ?_, _, _, _, _, _, _, _, _, _, _, hJ, hidden (hKx.out.more hk12), hKy, by omega, by omega⟩⟩
          rfl
  case q1 =>
   intro a' x hx
   clear hJ hKx hKy
   obtain ⟨l, rfl, hl, nm, Dm, no, Do, L, M, ax, cx, ay, cy, hJ, hKx, hKy, hnm, hno⟩ := (hR1.out _ _).1 hx
   obtain ⟨u, rfl⟩ := list174 hl
   have hno0 : no = 0 := by omega
   have hM0 : M = [] := List.eq_nil_of_length_eq_zero (by have := hKy.out.len; omega)
   have hk12 : 0 ≤ 12 := by decide
   clear hx hl hR1 hM0
   go_wp2_with fail
   refine wp_onlyE 2 R2 ?h2 ?q2
   case h2 =>
     go_loopw [15] (fun i x => ∃ (nm : Nat) (Dm : DataW Unit) (no : Nat) (Do : DataW Unit) (L M : List Ct) (ax : Option Addr) (cx : Nat) (ay : Option Addr) (cy : Nat) (k : Nat), i = .int .i64 k ∧ k ≤ NB ∧ k ≤ 12 ∧ Hid (MJ w x nm Dm no Do most L M L M ax cx ay cy) ∧ Hid (Kept most L 12 ax cx) ∧ Hid (Kept 1000000000000 M k ay cy) ∧ nm ≤ 12 ∧ no ≤ k) (fun i _ => NB - (intOf i).toNat)
     case atStart => exact ⟨_, _, _, _, _, _, _, _, _, _, 0, rfl, Nat.zero_le _, Nat.zero_le _, hJ, hKx, hKy, hnm, hno⟩
     case round =>
       clear hJ hKx hKy hnm hno hno0 hk12
       obtain ⟨nm, Dm, no, Do, L, M, ax, cx, ay, cy, k, rfl, hk, hk12, hJ, hKx, hKy, hnm, hno⟩ := hrel
       by_cases hlt : k < NB ∧ k < 12
       · obtain ⟨hlt1, hlt2⟩ := hlt
         have hi1 : (k : Int) < (NB : Int) := by omega
         have hi2 : (k : Int) < 12 := by omega
         have hkp : k < qs.length := by rw [← hNB.out]; exact hlt1
         obtain ⟨b, off, rfl, hb, c0, c1, c2⟩ := ac_at hQr.out hkp
         have f1 := (hJ.out.below.cell (p := ⟨b, off + k * 3 + 1, none⟩) hb).trans c1
         have f2 := (hJ.out.below.cell (p := ⟨b, off + k * 3 + 2, none⟩) hb).trans c2
         have hcn := fun z => cut_c (qs.getD k Ac.none).s 40 z (by decide)
         have hsz : (cutB (qs.getD k Ac.none).s 40).size ≤ 40 := cutB_size _ _
         have hcell2 := hidden (fun z (hz : Below w.heap.size w z) => (hz.cell (p := ⟨b, off + k * 3 + 2, none⟩) hb).trans c2)
         clear c0 c1 c2
         generalize (qs.getD k Ac.none).s = sn at *
         generalize (qs.getD k Ac.none).n = kn at *
         generalize cutB sn 40 = cs at *
         have hadd := madd_c cs kn wr hJ.out.o hKy.out.fine (by decide) (by decide) hsz (by omega) (by omega)
         go_wp2_with fail
         refine (hcn _).mono ?_
         rintro e z ⟨rfl, rfl⟩
         go_wp2_with fail
         refine hadd.mono ?_
         rintro e x1 ⟨n', D', rfl, hm1, hs1, hn1⟩
         have hJ1 := hidden (hJ.out.addO hm1.out hs1.out)
         have f3 := hcell2.out x1 hJ1.out.below
         have hradd := radd_c cs kn x1 hJ1.out.yr hKy.out.nil hJ1.out.hB hKy.out.fine (by decide) (by decide) hsz (by have := hKy.out.len; omega)
         have hn1' := hn1.out
         clear hadd hm1 hs1 hJ f1 f2 hn1 hcn
         go_wp2_with fail
         refine hradd.mono ?_
         rintro e x2 ⟨a', c', rfl, hr1, hnil1, hs2, hgr⟩
         have hJ2 := hidden (hJ1.out.addY hr1 hs2 hgr)
         have hK2 := hidden (hKy.out.add hsz hnil1)
         clear hradd hr1 hs2 hgr hnil1 hJ1 f3 hcell2
         go_wp2
         go_roundw
         case rel => exact ⟨_, _, _, _, _, _, _, _, _, _, k + 1, by go_num, by omega, by omega, hJ2, hKx, hK2, by omega, by omega⟩
         case measure => simp [intOf]; omega
       · have hg12 : Hid (k ≤ 12) := hk12
         by_cases hlt3 : k < NB
         all_goals
           first
             | (have hi3 : ¬ (k : Int) < 12 := by omega)
             | (have hi3 : ¬ (k : Int) < (NB : Int) := by omega)
           first
             | (have hi4 : (k : Int) < (NB : Int) := by omega)
             | skip
           clear hlt
           go_wp2
           refine ⟨rfl, (hR2.out _ _).2 ⟨_, rfl, ?_, _, _, _, _, _, _, _, _, _, _, hJ, hKx, hidden (hKy.out.more hk12), by omega, by omega⟩⟩
           rfl
   case q2 =>
    intro a' x hx
    clear hJ hKx hKy hnm hno hno0
    obtain ⟨l, rfl, hl, nm, Dm, no, Do, L, M, ax, cx, ay, cy, hJ, hKx, hKy, hnm, hno⟩ := (hR2.out _ _).1 hx
    obtain ⟨u, rfl⟩ := list174 hl
    clear hx hl hR2
    have hFx := hKx.out.fine
    have hFy := hKy.out.fine
    have hSx0 := hFx.nonneg
    have hSx1 := hFx.small
    have hSy0 := hFy.nonneg
    have hlx := hKx.out.len
    have hly := hKy.out.len
    have hw : IntKind.i64.wrap (most - sumC L) = most - sumC L := by rw [IntKind.wrap_i64]; omega
    by_cases hful : most - sumC L < sumC M
    · have hjoin := mjoinFull_c x hJ.out.m hJ.out.o hFx hm0 hm2 hful
      go_wp2_with fail
      refine hjoin.mono ?_
      rintro e z0 ⟨rfl, hBz⟩
      have hJ0 := hidden (hJ.out.step hBz.out)
      clear hjoin hBz hJ
      have hay := rall_c z0 hJ0.out.yr hFy (by decide) (by omega)
      have hax := rall_c z0 hJ0.out.xr hFx hm2 (by omega)
      go_wp2_with fail
      refine hay.mono ?_
      rintro e z1 ⟨rfl, rfl⟩
      go_wp2_with fail
      refine hax.mono ?_
      rintro e z2 ⟨rfl, rfl⟩
      rename World => z0
      clear hay hax
      have hml := mlines_c z0 hJ0.out.m hFx hm2 (by omega) (fun y hy => hT.out y (hJ0.out.below.trans (hy.mono hJ0.out.below.size)))
      go_wp2_with fail
      refine hml.mono ?_
      rintro e z1 ⟨a1, c1, rfl, ho1, hBz⟩
      have hJ1 := hidden (hJ0.out.step hBz)
      have ho1' := hidden ho1
      clear hml hBz hJ0 ho1
      have hxl := rlines_c z1 hJ1.out.xr hFx hm2 (by omega)
      go_wp2_with fail
      refine hxl.mono ?_
      rintro e z2 ⟨a2, c2, rfl, ho2, hBz⟩
      have hJ2 := hidden (hJ1.out.step hBz)
      have hst := sameT_c (linesC L) a1 a2 c1 c2 z2 (owns_tx' (owns_keepT ho1'.out hBz)) (owns_tx' ho2) (by rw [linesC_len]; omega)
      clear hxl hBz hJ1 ho1' ho2
      go_wp2_with fail
      refine hst.mono ?_
      rintro e z3 ⟨rfl, hBz⟩
      have hJ3 := hidden (hJ2.out.step hBz)
      clear hst hBz hJ2
      have hjn := mjoinNone_c z3 hJ3.out.m
      go_wp2_with fail
      refine hjn.mono ?_
      rintro e z4 ⟨rfl, rfl⟩
      rename World => z3
      clear hjn
      go_wp2_with fail
      refine (hlv.out _ (GoX.Calm.of_below hJ3.out.below)).mono ?_
      rintro e z4 ⟨rfl, hc⟩
      have hfin := hidden ((GoX.Calm.of_below hJ3.out.below).trans hc)
      clear hJ3 hc
      go_wp2
      go_ret
      exact ⟨rfl, hfin.out⟩
    · have hful' : sumC M ≤ most - sumC L := by omega
      have hjoin := mjoin_c x hJ.out.m hJ.out.o hFx hFy hm0 hm2 hful' (by omega) (by omega) (by omega)
      go_wp2_with fail
      refine hjoin.mono ?_
      rintro e z0 ⟨n', D', rfl, hm1, hs1, hn1⟩
      have hJ0 := hidden (hJ.out.addM hm1.out hs1.out)
      clear hjoin hm1 hs1 hJ hn1
      have hay := rall_c z0 hJ0.out.yr hFy (by decide) (by omega)
      have hax := rall_c z0 hJ0.out.xr hFx hm2 (by omega)
      go_wp2_with fail
      refine hay.mono ?_
      rintro e z1 ⟨rfl, rfl⟩
      go_wp2_with fail
      refine hax.mono ?_
      rintro e z2 ⟨rfl, rfl⟩
      rename World => z0
      clear hay hax hw
      obtain ⟨NM, hNM⟩ : ∃ NM, Hid (NM = M.length) := ⟨_, hidden rfl⟩
      have hNM12 : NM ≤ 12 := by rw [hNM.out]; exact hly
      have hyn := hidden hKy.out.names
      have hKx24 : Hid (Kept most (joinC L (M.take 0)) 24 ax cx) := hKx.out.more (by decide)
      have hJs : Hid (MJ w z0 n' D' no Do most (joinC L M) M (joinC L (M.take 0)) M ax cx ay cy) := hJ0.out
      clear hJ0
      go_wp2_with fail
      go_loopw [18] (fun i y => ∃ (k : Nat) (ax : Option Addr) (cx : Nat), i = .int .i64 k ∧ k ≤ NM ∧ Hid (MJ w y n' D' no Do most (joinC L M) M (joinC L (M.take k)) M ax cx ay cy) ∧ Hid (Kept most (joinC L (M.take k)) (24 + k) ax cx)) (fun i _ => NM - (intOf i).toNat)
      case atStart => exact ⟨0, _, _, rfl, Nat.zero_le _, hJs, hKx24⟩
      case round =>
        clear hJs hKx24
        obtain ⟨k, ax, cx, rfl, hk, hJ, hK⟩ := hrel
        obtain ⟨⟨y0, -⟩, -⟩ := rbox hJ.out.yr.box
        rw [← hNM.out] at y0
        by_cases hlt : k < NM
        · have hlt' : (k : Int) < (NM : Int) := by omega
          have hkM : k < M.length := by rw [← hNM.out]; exact hlt
          obtain ⟨g, off, rfl, hg, d0, d1⟩ := count_at hJ.out.yr.at hkM
          have hyc : Hid (∀ z a' c' J', MJ w z n' D' no Do most (joinC L M) M J' M a' c' (some ⟨g, off, none⟩) cy → z.cell? ⟨w.heap.size + 5, 0, none⟩ = some (.slice (some ⟨g, off, none⟩) NM cy) ∧ z.cell? ⟨g, off + k * 2, none⟩ = some (.string (M.getD k Ct.none).s) ∧ z.cell? ⟨g, off + k * 2 + 1, none⟩ = some (.int .i64 (M.getD k Ct.none).k)) := fun z a' c' J' hz => by
            obtain ⟨⟨y9, -⟩, -⟩ := rbox hz.yr.box
            obtain ⟨g9, off9, he, -, d8, d9⟩ := count_at hz.yr.at hkM
            cases he
            rw [← hNM.out] at y9
            exact ⟨y9, d8, d9⟩
          have hin : (M.getD k Ct.none) ∈ M := by
            rw [show M.getD k Ct.none = M[k] by simp [List.getD, hkM]]
            exact List.getElem_mem _
          have hps := hFy.pos _ hin
          have hns := hyn.out _ (List.mem_map_of_mem hin)
          have hsn := hidden (joinC_snoc L M k hkM)
          have hs2 := sum_takeC M (k + 1) hFy.pos
          have hs3 : sumC (M.take (k + 1)) = sumC (M.take k) + (M.getD k Ct.none).k := by rw [take_snocR M Ct.none k hkM, sum_app]; simp [sumC]
          have hs4 := sum_join (M.take k) L
          generalize M.getD k Ct.none = cc at *
          obtain ⟨cs, ck⟩ := cc
          simp only at hps hns hsn hs3 d0 d1
          generalize joinC L (M.take k) = J at *
          have hto : Hid (addTo most J cs ck = addC cs ck J) := by
            show _ = _
            unfold addTo
            rw [if_pos ⟨hns, hps.1, by omega⟩]
          have hradd := radd_c cs ck wr.drew (hJ.out.step (Below.refl _ _).drew).xr hK.out.nil hJ.out.hB hK.out.fine hm0 hm2 hps.2 (by have := hK.out.len; omega)
          have hcsz := hps.2
          have hkd : Hid (MJ w wr.drew n' D' no Do most (joinC L M) M J M ax cx (some ⟨g, off, none⟩) cy) := hJ.out.step (Below.refl _ _).drew
          have hns' := hidden hns
          clear hns hin hs2 hs3 hs4 hJ
          go_wp2_with fail
          go_region_held3 (fun z => z.cell? ⟨w.heap.size + 5, 0, none⟩ = some (.slice (some ⟨g, off, none⟩) NM cy) ∧ z.cell? ⟨g, off + k * 2, none⟩ = some (.string cs) ∧ z.cell? ⟨g, off + k * 2 + 1, none⟩ = some (.int .i64 ck)) (first | exact hS | go_keep) (first
            | (go_at_call 9; refine hradd.mono ?_; rintro e x2 ⟨a', c', rfl, hr1, hnil1, hs2, hgr⟩
               have hJ2 := hidden (hkd.out.addX hr1 hs2 hgr)
               have hS := hyc.out _ _ _ _ hJ2.out
               have hK2 := hidden (hK.out.add hcsz hnil1))
            | fail)
          rw [hto.out, ← hsn.out] at hJ2 hK2
          clear hradd hkd hyc hK hr1 hnil1 hs2 hgr hS
          go_wp2
          go_roundw
          case rel => exact ⟨k + 1, _, _, by go_num, by omega, hJ2, hK2⟩
          case measure => simp [intOf]; omega
        · have hlt' : ¬ (k : Int) < (NM : Int) := by omega
          obtain rfl : k = NM := by omega
          have ht : M.take k = M := List.take_of_length_le (by rw [← hNM.out]; exact Nat.le_refl _)
          rw [ht] at hJ hK
          have hFj := hK.out.fine
          have hlj := hK.out.len
          generalize joinC L M = J at *
          have hml := mlines_c wr hJ.out.m hFj hm2 (by omega) (fun y hy => hT.out y (hJ.out.below.trans (hy.mono hJ.out.below.size)))
          go_wp2_with fail
          refine hml.mono ?_
          rintro e z1 ⟨a1, c1, rfl, ho1, hBz⟩
          have hJ1 := hidden (hJ.out.step hBz)
          have ho1' := hidden ho1
          clear hml hBz hJ ho1 y0
          have hxl := rlines_c z1 hJ1.out.xr hFj hm2 (by omega)
          go_wp2_with fail
          refine hxl.mono ?_
          rintro e z2 ⟨a2, c2, rfl, ho2, hBz⟩
          have hJ2 := hidden (hJ1.out.step hBz)
          have hst := sameT_c (linesC J) a1 a2 c1 c2 z2 (owns_tx' (owns_keepT ho1'.out hBz)) (owns_tx' ho2) (by rw [linesC_len]; omega)
          clear hxl hBz hJ1 ho1' ho2
          go_wp2_with fail
          refine hst.mono ?_
          rintro e z3 ⟨rfl, hBz⟩
          have hJ3 := hidden (hJ2.out.step hBz)
          clear hst hBz hJ2
          have hol := mlines_c z3 hJ3.out.o hFy (by decide) (by omega) (fun y hy => hT.out y (hJ3.out.below.trans (hy.mono hJ3.out.below.size)))
          go_wp2_with fail
          refine hol.mono ?_
          rintro e z4 ⟨a3, c3, rfl, ho3, hBz⟩
          have hJ4 := hidden (hJ3.out.step hBz)
          have ho3' := hidden ho3
          clear hol hBz hJ3 ho3
          have hyl := rlines_c z4 hJ4.out.yr hFy (by decide) (by omega)
          go_wp2_with fail
          refine hyl.mono ?_
          rintro e z5 ⟨a4, c4, rfl, ho4, hBz⟩
          have hJ5 := hidden (hJ4.out.step hBz)
          have hst := sameT_c (linesC M) a3 a4 c3 c4 z5 (owns_tx' (owns_keepT ho3'.out hBz)) (owns_tx' ho4) (by rw [linesC_len]; omega)
          clear hyl hBz hJ4 ho3' ho4
          go_wp2_with fail
          refine hst.mono ?_
          rintro e z6 ⟨rfl, hBz⟩
          have hJ6 := hidden (hJ5.out.step hBz)
          clear hst hBz hJ5
          go_wp2_with fail
          refine (hlv.out _ (GoX.Calm.of_below hJ6.out.below)).mono ?_
          rintro e z7 ⟨rfl, hc⟩
          have hfin := hidden ((GoX.Calm.of_below hJ6.out.below).trans hc)
          clear hJ6 hc
          go_wp2
          go_ret
          exact ⟨rfl, hfin.out⟩
end Go.Proofs.YtoijkbnjcnedjaaDoor
