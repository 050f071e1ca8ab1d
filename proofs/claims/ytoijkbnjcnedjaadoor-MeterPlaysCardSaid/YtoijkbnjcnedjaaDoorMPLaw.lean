/-
  THE LAW MeterPlays, with lives() as a premise.
-/
import Derived.Test.YtoijkbnjcnedjaaDoorMet11
import Derived.Test.YtoijkbnjcnedjaaDoorMetL
namespace Go.Proofs.YtoijkbnjcnedjaaDoor
open Go.ChangeShapes Go.WideShapes Go.ChangeAt Go.RowKit Go.Maps

theorem namesC_len (L : List Ct) : (namesC L).length = L.length := by simp [namesC]
theorem owns_tx' {w : World} {B t n c : Nat} {a : Option Addr} {L : List ByteArray} (h : w.ownsRow B t 1 (.slice a n c) n (tx L)) : RowAt w a (tx L) := by
  obtain ⟨a', c', he, hr⟩ := holds_of_owns h
  simp only [Value.slice.injEq] at he
  obtain ⟨rfl, _, _⟩ := he
  exact hr
/-- A meter and its reference. -/
structure MP (w x : World) (nm : Nat) (Dm : DataW Unit) (most : Int) (Lm Lx : List Ct) (ax : Option Addr) (cx : Nat) : Prop where
  below : Below w.heap.size w x
  m : MtAt x (w.heap.size + 1) w.heap.size nm Dm most Lm
  xr : RMt (w.heap.size + 3) x (w.heap.size + 2) ax cx most Lx
  hB : w.heap.size + 3 ≤ x.heap.size
variable {w x z : World} {nm : Nat} {Dm : DataW Unit} {most : Int} {Lm Lx : List Ct} {ax : Option Addr} {cx : Nat}
theorem MP.step (h : MP w x nm Dm most Lm Lx ax cx) (hz : Below x.heap.size x z) : MP w z nm Dm most Lm Lx ax cx :=
  ⟨h.below.trans (hz.mono h.below.size), h.m.below hz, h.xr.below hz, Nat.le_trans h.hB hz.size⟩
theorem MP.addM (h : MP w x nm Dm most Lm Lx ax cx) {n' : Nat} {D' : DataW Unit} {L' : List Ct} (hm : MtAt z (w.heap.size + 1) w.heap.size n' D' most L') (hs : SaveL [w.heap.size + 1, w.heap.size] x z) : MP w z n' D' most L' Lx ax cx :=
  ⟨h.below.trans (hs.below h.below.size (fun k hk => by simp at hk; omega)), hm, h.xr.save hs (by simp) (fun g hg => by have := (h.xr.row.lt g hg).1; simp; omega), Nat.le_trans h.hB hs.size⟩
theorem MP.addX (h : MP w x nm Dm most Lm Lx ax cx) {a' : Option Addr} {c' : Nat} {L' : List Ct} (hm : RMt (w.heap.size + 3) z (w.heap.size + 2) a' c' most L') (hs : SaveL ((w.heap.size + 2) :: rowb ax) x z) : MP w z nm Dm most Lm L' a' c' := by
  have hr := fun k hk => rowb_lt h.xr.row k hk
  refine ⟨h.below.trans (hs.below h.below.size (fun k hk => ?_)), h.m.save hs (fun hm => ?_) (fun hm => ?_), hm, Nat.le_trans h.hB hs.size⟩
  · rcases List.mem_cons.1 hk with rfl | hk
    · omega
    · have := (hr k hk).1; omega
  · rcases List.mem_cons.1 hm with h0 | hk
    · omega
    · have := (hr _ hk).1; omega
  · rcases List.mem_cons.1 hm with h0 | hk
    · omega
    · have := (hr _ hk).1; omega
theorem MP.cut (h : MP w x nm Dm most Lm Lx ax cx) : MP w (x.setCell ⟨w.heap.size + 2, 0, none⟩ (.slice none 0 0)) nm Dm most Lm [] none 0 := by
  refine h.addX (L' := []) ⟨?_, World.ownsRow_nil .., by omega⟩ (SaveL.setCell ⟨w.heap.size + 2, 0, none⟩ _ (by simp))
  have := set_cell0 h.xr.box (.slice none 0 0)
  simpa using this
theorem mp_start (w x : World) (most : Int) (h1 : MtAt x (w.heap.size + 1) w.heap.size 0 (.map []) most []) (hB1 : Below w.heap.size w x) (hz1 : x.heap.size = w.heap.size + 2) :
    MP w (x.alloc (.cells #[.slice none 0 0, .int .i64 most] 31)) 0 (.map []) most [] [] none 0 := by
  have hBa := (Below.refl x.heap.size x).alloc (Nat.le_refl _) (.cells #[.slice none 0 0, .int .i64 most] 31)
  refine ⟨hB1.trans (hBa.mono hB1.size), h1.below hBa, ⟨?_, World.ownsRow_nil .., by omega⟩, by simp; omega⟩
  have h := heap_alloc_new x (.cells #[.slice none 0 0, .int .i64 most] 31)
  rw [hz1] at h
  exact h
theorem kept0 (most : Int) (h : 0 ≤ most) (k : Nat) : Kept most [] k none 0 := ⟨⟨List.Pairwise.nil, fun _ h => (by cases h), h⟩, fun _ h => (by cases h), Nat.zero_le _, fun _ => ⟨rfl, rfl⟩⟩
theorem names_dbl (L : List Ct) : namesC (dblC L) = namesC L := by simp [namesC, dblC]
theorem Kept.dbl {k : Nat} {a : Option Addr} {c : Nat} {L : List Ct} (h : Kept most L k a c) (hm : ¬ most - sumC L < sumC L) : Kept most (dblC L) k a c := by
  refine ⟨⟨by rw [names_dbl]; exact h.fine.strict, fun d hd => ?_, by rw [sum_dbl]; omega⟩, by rw [names_dbl]; exact h.names, by simpa [dblC] using h.len, fun e => h.nil (by simpa [dblC] using e)⟩
  obtain ⟨d', hd', rfl⟩ := List.mem_map.1 hd
  have := h.fine.pos d' hd'
  exact ⟨by show 0 < 2 * d'.k; omega, this.2⟩
set_option maxHeartbeats 6400000 in
set_option maxRecDepth 100000 in
theorem law_c (ps : List Ac) (pa : Option Addr) (NA pc : Nat) (most : Int) (ask : ByteArray) (w : World) (hP : HoldsR acR w (.slice pa NA pc) ps) (hN : ps.length ≤ maxLen)
    (hT : ∀ x, Below w.heap.size w x → Lib.TabIs Tryd.prog x "internal/strconv.uint64pow10" .u64 Lib.pow10Tab)
    (hlv : ∀ x, GoX.Calm w x → Calls Tryd.prog 6 #[] x fun e w' => e = .returned (.bool true) ∧ GoX.Calm x w') :
    Calls Tryd.prog 4 #[.int .i64 most, .slice pa NA pc, .string ask] w fun e w' => e = .returned (.bool true) ∧ GoX.Calm w w' := by
  unfold maxLen at hN
  obtain ⟨pa', pc', he, hPr⟩ := hP
  simp only [Value.slice.injEq] at he
  obtain ⟨rfl, rfl, rfl⟩ := he
  obtain ⟨NA, hNA⟩ : ∃ NA, NA = ps.length := ⟨_, rfl⟩
  rw [← hNA]
  rw [← hNA] at hN
  replace hNA := hidden hNA
  replace hPr := hidden hPr
  replace hT := hidden hT
  replace hlv := hidden hlv
  have hcut := cut_c ask 40 w (by decide)
  have hak : (cutB ask 40).size ≤ 40 := cutB_size _ _
  generalize cutB ask 40 = ak at *
  by_cases hrange : most < 0 ∨ 1000000000000 < most
  case pos =>
    have hnone := mnewNone_c most w hrange
    rcases hrange with hr | hr
    all_goals
      first
        | (have hr0 : ¬ most < 0 := by omega)
        | skip
      go_enter Tryd.func4, Tryd.ntmps4
      go_wp2_with fail
      refine hcut.mono ?_
      rintro e z ⟨rfl, rfl⟩
      go_wp2_with fail
      refine hnone.mono ?_
      rintro e z ⟨rfl, rfl⟩
      rename World => w
      go_wp2_with fail
      refine (hlv.out _ (GoX.Calm.of_below (Below.refl _ _))).mono ?_
      rintro e y ⟨rfl, hc⟩
      go_wp2
      go_ret
      exact ⟨rfl, hc⟩
  case neg =>
  have hm0 : 0 ≤ most := by omega
  have hm2 : most ≤ 1000000000000 := by omega
  have hnM := mnew_c most w hm0 hm2
  clear hrange
  go_enter Tryd.func4, Tryd.ntmps4
  go_wp2_with fail
  refine hcut.mono ?_
  rintro e z ⟨rfl, rfl⟩
  rename World => w
  go_wp2_with fail
  refine hnM.mono ?_
  rintro e w1 ⟨rfl, hA1, hB1, hz1⟩
  have hJ := hidden (mp_start w w1 most hA1.out hB1.out hz1.out)
  have hK : Hid (Kept most [] 0 none 0) := kept0 most hm0 0
  clear hA1 hnM hB1 hcut
  go_wp2_with fail
  rw [hz1.out]
  clear hz1
  go_loopw [10] (fun i x => ∃ (nm : Nat) (Dm : DataW Unit) (L : List Ct) (ax : Option Addr) (cx : Nat) (k : Nat), i = .int .i64 k ∧ k ≤ NA ∧ k ≤ 30 ∧ Hid (MP w x nm Dm most L L ax cx) ∧ Hid (Kept most L k ax cx) ∧ nm ≤ 31 * k) (fun i _ => NA - (intOf i).toNat)
  case atStart => exact ⟨_, _, _, _, _, 0, rfl, Nat.zero_le _, Nat.zero_le _, hJ, hK, Nat.zero_le _⟩
  case round =>
    clear hJ hK
    obtain ⟨nm, Dm, L, ax, cx, k, rfl, hk, hk30, hJ, hK, hnm⟩ := hrel
    by_cases hlt : k < NA ∧ k < 30
    · obtain ⟨hlt1, hlt2⟩ := hlt
      have hi1 : (k : Int) < (NA : Int) := by omega
      have hi2 : (k : Int) < 30 := by omega
      have hkp : k < ps.length := by rw [← hNA.out]; exact hlt1
      obtain ⟨b, off, rfl, hb, c0, c1, c2⟩ := ac_at hPr.out hkp
      have f0 := (hJ.out.below.cell (p := ⟨b, off + k * 3, none⟩) hb).trans c0
      have f1 := (hJ.out.below.cell (p := ⟨b, off + k * 3 + 1, none⟩) hb).trans c1
      have f2 := (hJ.out.below.cell (p := ⟨b, off + k * 3 + 2, none⟩) hb).trans c2
      have hcn := fun z => cut_c (ps.getD k Ac.none).s 40 z (by decide)
      have hsz : (cutB (ps.getD k Ac.none).s 40).size ≤ 40 := cutB_size _ _
      clear c0 c1 c2
      generalize (ps.getD k Ac.none).d = kd at *
      generalize (ps.getD k Ac.none).s = sn at *
      generalize (ps.getD k Ac.none).n = kn at *
      generalize cutB sn 40 = cs at *
      obtain ⟨y, hy⟩ : ∃ y, Hid (wr.alloc (.cells #[.int .i64 kd, .string cs, .int .i64 kn] 34) = y) := ⟨_, hidden rfl⟩
      have hJy : Hid (MP w y nm Dm most L L ax cx) := by show MP ..; rw [← hy.out]; exact hJ.out.step ((Below.refl _ _).alloc (Nat.le_refl _) _)
      have hPy : Hid (y.heap[wr.heap.size]? = some (.cells #[.int .i64 kd, .string cs, .int .i64 kn] 34)) := by show _ = _; rw [← hy.out]; exact heap_alloc_new wr _
      have hrw : Hid (∀ g ∈ rowb ax, g < wr.heap.size) := fun g hg => (rowb_lt hJ.out.xr.row g hg).2.1
      have hws : Hid (w.heap.size + 3 ≤ wr.heap.size) := hJ.out.hB
      have hF0 := hK.out.fine
      have hlen0 := hK.out.len
      clear hJ
      by_cases hk1 : kd = 1
      · subst hk1
        by_cases hful : most - sumC L < sumC L
        · have h1 := mjoinFull_c y hJy.out.m hJy.out.m hF0 hm0 hm2 hful
          go_wp2_with fail
          refine (hcn _).mono ?_
          rintro e q ⟨rfl, rfl⟩
          go_wp2_with fail
          rw [hy.out]
          refine h1.mono ?_
          rintro e x1 ⟨rfl, hB1⟩
          have hJ1 := hidden (hJy.out.step hB1.out)
          have h2 := rtwiceNo_c x1 hJ1.out.xr hF0 hm2 (by omega) hful
          clear h1 hB1 hJy hPy hcn hy hrw hws f0 f1 f2
          go_wp2_with fail
          refine h2.mono ?_
          rintro e z ⟨rfl, hB1⟩
          have hJ := hidden (hJ1.out.step hB1.out)
          replace hK := hidden (hK.out.more (Nat.le_succ k))
          clear h2 hB1 hJ1 hF0 hlen0
          have hF := hK.out.fine
          have hS0 := hF.nonneg
          have hS1 := hF.small
          have hlen := hK.out.len
          have hw : IntKind.i64.wrap (most - sumC L) = most - sumC L := by rw [IntKind.wrap_i64]; omega
          have hq1 : (sumC L != sumC L) = false := by simp
          have hq2 : (most - sumC L != most - sumC L) = false := by simp
          have hq3 : (ofC ak L != ofC ak L) = false := by simp
          have h1 := mall_c z hJ.out.m
          have h2 := rall_c z hJ.out.xr hF hm2 (by omega)
          have h3 := mleft_c z hJ.out.m hm0 hm2 hS0 hS1
          go_wp2_with fail
          refine h1.mono ?_
          rintro e z1 ⟨rfl, rfl⟩
          go_wp2_with fail
          refine h2.mono ?_
          rintro e z2 ⟨rfl, rfl⟩
          go_wp2_with fail
          refine h3.mono ?_
          rintro e y ⟨rfl, hBy⟩
          have hJ1 := hidden (hJ.out.step hBy.out)
          clear h1 h2 h3 hBy hJ
          have h1 := rall_c y hJ1.out.xr hF hm2 (by omega)
          have h2 := mof_c ak y hJ1.out.m (by omega)
          have h3 := rof_c ak y hJ1.out.xr (by omega)
          have h4 := mnames_c y hJ1.out.m (by omega) hF.strict
          go_wp2_with fail
          refine h1.mono ?_
          rintro e z1 ⟨rfl, rfl⟩
          go_wp2_with fail
          refine h2.mono ?_
          rintro e z2 ⟨rfl, rfl⟩
          go_wp2_with fail
          refine h3.mono ?_
          rintro e z3 ⟨rfl, rfl⟩
          go_wp2_with fail
          refine h4.mono ?_
          rintro e y1 ⟨g1, c1, rfl, ho1, hBy⟩
          have hJ2 := hidden (hJ1.out.step hBy)
          replace ho1 := hidden ho1
          clear h1 h2 h3 h4 hBy hJ1 hq1 hq2 hq3 hw
          have h1 := rnames_c y1 hJ2.out.xr (by omega)
          go_wp2_with fail
          refine h1.mono ?_
          rintro e y2 ⟨a2, c2, rfl, ho2, hBy⟩
          have hJ3 := hidden (hJ2.out.step hBy)
          have hst := sameT_c (namesC L) (some ⟨g1, 0, none⟩) a2 c1 c2 y2 (owns_tx' (owns_keepT ho1.out hBy)) (owns_tx' ho2) (by rw [namesC_len]; omega)
          rw [namesC_len] at hst
          clear h1 hBy hJ2 ho1 ho2
          go_wp2_with fail
          refine hst.mono ?_
          rintro e y3 ⟨rfl, hBy⟩
          have hJ4 := hidden (hJ3.out.step hBy)
          clear hst hBy hJ3
          have h1 := mlines_c y3 hJ4.out.m hF hm2 (by omega) (fun y hy => hT.out y (hJ4.out.below.trans (hy.mono hJ4.out.below.size)))
          go_wp2_with fail
          refine h1.mono ?_
          rintro e y4 ⟨a3, c3, rfl, ho3, hBy⟩
          have hJ5 := hidden (hJ4.out.step hBy)
          replace ho3 := hidden ho3
          clear h1 hBy hJ4
          have h1 := rlines_c y4 hJ5.out.xr hF hm2 (by omega)
          go_wp2_with fail
          refine h1.mono ?_
          rintro e y5 ⟨a4, c4, rfl, ho4, hBy⟩
          have hJ6 := hidden (hJ5.out.step hBy)
          have hst := sameT_c (linesC L) a3 a4 c3 c4 y5 (owns_tx' (owns_keepT ho3.out hBy)) (owns_tx' ho4) (by rw [linesC_len]; omega)
          clear h1 hBy hJ5 ho3 ho4
          go_wp2_with fail
          refine hst.mono ?_
          rintro e y6 ⟨rfl, hBy⟩
          have hJ7 := hidden (hJ6.out.step hBy)
          clear hst hBy hJ6
          go_wp2
          go_roundw
          case rel => exact ⟨_, _, _, _, _, k + 1, by go_num, by omega, by omega, hJ7, hK, by omega⟩
          case measure => simp [intOf]; omega
        · have hst0 := hF0.strict
          have hfulH : Hid (¬ most - sumC L < sumC L) := hful
          have h1 := mjoin_c y hJy.out.m hJy.out.m hF0 hF0 hm0 hm2 (by omega) (by omega) (by omega) (by omega)
          rw [dbl_same L hst0] at h1
          go_wp2_with fail
          refine (hcn _).mono ?_
          rintro e q ⟨rfl, rfl⟩
          go_wp2_with fail
          rw [hy.out]
          refine h1.mono ?_
          rintro e x1 ⟨n', D', rfl, hM1, hs1, hn1⟩
          have hJ1 := hidden (hJy.out.addM hM1.out hs1.out)
          have h2 := rtwice_c x1 hJ1.out.xr hF0 hm2 (by omega) (by omega)
          have hn1' := hn1.out
          clear h1 hM1 hs1 hn1 hJy hPy hcn hy hrw hws f0 f1 f2
          go_wp2_with fail
          refine h2.mono ?_
          rintro e z ⟨rfl, hR1, hs1⟩
          have hJ := hidden (hJ1.out.addX hR1.out hs1.out)
          replace hK := hidden ((hK.out.dbl (by omega)).more (Nat.le_succ k))
          clear h2 hR1 hs1 hJ1 hF0 hst0 hful hfulH
          generalize dblC L = L2 at *
          have hF := hK.out.fine
          have hS0 := hF.nonneg
          have hS1 := hF.small
          have hlen := hK.out.len
          have hw : IntKind.i64.wrap (most - sumC L2) = most - sumC L2 := by rw [IntKind.wrap_i64]; omega
          have hq1 : (sumC L2 != sumC L2) = false := by simp
          have hq2 : (most - sumC L2 != most - sumC L2) = false := by simp
          have hq3 : (ofC ak L2 != ofC ak L2) = false := by simp
          have h1 := mall_c z hJ.out.m
          have h2 := rall_c z hJ.out.xr hF hm2 (by omega)
          have h3 := mleft_c z hJ.out.m hm0 hm2 hS0 hS1
          go_wp2_with fail
          refine h1.mono ?_
          rintro e z1 ⟨rfl, rfl⟩
          go_wp2_with fail
          refine h2.mono ?_
          rintro e z2 ⟨rfl, rfl⟩
          go_wp2_with fail
          refine h3.mono ?_
          rintro e y ⟨rfl, hBy⟩
          have hJ1 := hidden (hJ.out.step hBy.out)
          clear h1 h2 h3 hBy hJ
          have h1 := rall_c y hJ1.out.xr hF hm2 (by omega)
          have h2 := mof_c ak y hJ1.out.m (by omega)
          have h3 := rof_c ak y hJ1.out.xr (by omega)
          have h4 := mnames_c y hJ1.out.m (by omega) hF.strict
          go_wp2_with fail
          refine h1.mono ?_
          rintro e z1 ⟨rfl, rfl⟩
          go_wp2_with fail
          refine h2.mono ?_
          rintro e z2 ⟨rfl, rfl⟩
          go_wp2_with fail
          refine h3.mono ?_
          rintro e z3 ⟨rfl, rfl⟩
          go_wp2_with fail
          refine h4.mono ?_
          rintro e y1 ⟨g1, c1, rfl, ho1, hBy⟩
          have hJ2 := hidden (hJ1.out.step hBy)
          replace ho1 := hidden ho1
          clear h1 h2 h3 h4 hBy hJ1 hq1 hq2 hq3 hw
          have h1 := rnames_c y1 hJ2.out.xr (by omega)
          go_wp2_with fail
          refine h1.mono ?_
          rintro e y2 ⟨a2, c2, rfl, ho2, hBy⟩
          have hJ3 := hidden (hJ2.out.step hBy)
          have hst := sameT_c (namesC L2) (some ⟨g1, 0, none⟩) a2 c1 c2 y2 (owns_tx' (owns_keepT ho1.out hBy)) (owns_tx' ho2) (by rw [namesC_len]; omega)
          rw [namesC_len] at hst
          clear h1 hBy hJ2 ho1 ho2
          go_wp2_with fail
          refine hst.mono ?_
          rintro e y3 ⟨rfl, hBy⟩
          have hJ4 := hidden (hJ3.out.step hBy)
          clear hst hBy hJ3
          have h1 := mlines_c y3 hJ4.out.m hF hm2 (by omega) (fun y hy => hT.out y (hJ4.out.below.trans (hy.mono hJ4.out.below.size)))
          go_wp2_with fail
          refine h1.mono ?_
          rintro e y4 ⟨a3, c3, rfl, ho3, hBy⟩
          have hJ5 := hidden (hJ4.out.step hBy)
          replace ho3 := hidden ho3
          clear h1 hBy hJ4
          have h1 := rlines_c y4 hJ5.out.xr hF hm2 (by omega)
          go_wp2_with fail
          refine h1.mono ?_
          rintro e y5 ⟨a4, c4, rfl, ho4, hBy⟩
          have hJ6 := hidden (hJ5.out.step hBy)
          have hst := sameT_c (linesC L2) a3 a4 c3 c4 y5 (owns_tx' (owns_keepT ho3.out hBy)) (owns_tx' ho4) (by rw [linesC_len]; omega)
          clear h1 hBy hJ5 ho3 ho4
          go_wp2_with fail
          refine hst.mono ?_
          rintro e y6 ⟨rfl, hBy⟩
          have hJ7 := hidden (hJ6.out.step hBy)
          clear hst hBy hJ6
          go_wp2
          go_roundw
          case rel => exact ⟨_, _, _, _, _, k + 1, by go_num, by omega, by omega, hJ7, hK, by omega⟩
          case measure => simp [intOf]; omega
      · by_cases hk2 : kd = 2
        · subst hk2
          have h1 := rall_c y hJy.out.xr hF0 hm2 (by omega)
          have hJc := hidden hJy.out.cut
          obtain ⟨⟨x0, -⟩, xf⟩ := rbox hJy.out.xr.box
          have h2 := mclear_c _ hJc.out.m (by omega)
          have hq0 : (sumC L != sumC L) = false := by simp
          go_wp2_with fail
          refine (hcn _).mono ?_
          rintro e q ⟨rfl, rfl⟩
          go_wp2_with fail
          rw [hy.out]
          refine h1.mono ?_
          rintro e q ⟨rfl, rfl⟩
          rename World => y
          clear h1 hcn hy hrw hws f0 f1 f2
          go_wp2_with fail
          refine h2.mono ?_
          rintro e z ⟨rfl, hM1, hs1⟩
          have hJ := hidden (hJc.out.addM hM1.out hs1.out)
          have hK : Hid (Kept most [] (k + 1) none 0) := kept0 most hm0 (k + 1)
          clear h2 hM1 hs1 hJc hJy hPy x0 xf hF0 hlen0
          generalize ([] : List Ct) = L2 at hJ hK
          have hF := hK.out.fine
          have hS0 := hF.nonneg
          have hS1 := hF.small
          have hlen := hK.out.len
          have hw : IntKind.i64.wrap (most - sumC L2) = most - sumC L2 := by rw [IntKind.wrap_i64]; omega
          have hq1 : (sumC L2 != sumC L2) = false := by simp
          have hq2 : (most - sumC L2 != most - sumC L2) = false := by simp
          have hq3 : (ofC ak L2 != ofC ak L2) = false := by simp
          have h1 := mall_c z hJ.out.m
          have h2 := rall_c z hJ.out.xr hF hm2 (by omega)
          have h3 := mleft_c z hJ.out.m hm0 hm2 hS0 hS1
          go_wp2_with fail
          refine h1.mono ?_
          rintro e z1 ⟨rfl, rfl⟩
          go_wp2_with fail
          refine h2.mono ?_
          rintro e z2 ⟨rfl, rfl⟩
          go_wp2_with fail
          refine h3.mono ?_
          rintro e y ⟨rfl, hBy⟩
          have hJ1 := hidden (hJ.out.step hBy.out)
          clear h1 h2 h3 hBy hJ
          have h1 := rall_c y hJ1.out.xr hF hm2 (by omega)
          have h2 := mof_c ak y hJ1.out.m (by omega)
          have h3 := rof_c ak y hJ1.out.xr (by omega)
          have h4 := mnames_c y hJ1.out.m (by omega) hF.strict
          go_wp2_with fail
          refine h1.mono ?_
          rintro e z1 ⟨rfl, rfl⟩
          go_wp2_with fail
          refine h2.mono ?_
          rintro e z2 ⟨rfl, rfl⟩
          go_wp2_with fail
          refine h3.mono ?_
          rintro e z3 ⟨rfl, rfl⟩
          go_wp2_with fail
          refine h4.mono ?_
          rintro e y1 ⟨g1, c1, rfl, ho1, hBy⟩
          have hJ2 := hidden (hJ1.out.step hBy)
          replace ho1 := hidden ho1
          clear h1 h2 h3 h4 hBy hJ1 hq1 hq2 hq3 hw
          have h1 := rnames_c y1 hJ2.out.xr (by omega)
          go_wp2_with fail
          refine h1.mono ?_
          rintro e y2 ⟨a2, c2, rfl, ho2, hBy⟩
          have hJ3 := hidden (hJ2.out.step hBy)
          have hst := sameT_c (namesC L2) (some ⟨g1, 0, none⟩) a2 c1 c2 y2 (owns_tx' (owns_keepT ho1.out hBy)) (owns_tx' ho2) (by rw [namesC_len]; omega)
          rw [namesC_len] at hst
          clear h1 hBy hJ2 ho1 ho2
          go_wp2_with fail
          refine hst.mono ?_
          rintro e y3 ⟨rfl, hBy⟩
          have hJ4 := hidden (hJ3.out.step hBy)
          clear hst hBy hJ3
          have h1 := mlines_c y3 hJ4.out.m hF hm2 (by omega) (fun y hy => hT.out y (hJ4.out.below.trans (hy.mono hJ4.out.below.size)))
          go_wp2_with fail
          refine h1.mono ?_
          rintro e y4 ⟨a3, c3, rfl, ho3, hBy⟩
          have hJ5 := hidden (hJ4.out.step hBy)
          replace ho3 := hidden ho3
          clear h1 hBy hJ4
          have h1 := rlines_c y4 hJ5.out.xr hF hm2 (by omega)
          go_wp2_with fail
          refine h1.mono ?_
          rintro e y5 ⟨a4, c4, rfl, ho4, hBy⟩
          have hJ6 := hidden (hJ5.out.step hBy)
          have hst := sameT_c (linesC L2) a3 a4 c3 c4 y5 (owns_tx' (owns_keepT ho3.out hBy)) (owns_tx' ho4) (by rw [linesC_len]; omega)
          clear h1 hBy hJ5 ho3 ho4
          go_wp2_with fail
          refine hst.mono ?_
          rintro e y6 ⟨rfl, hBy⟩
          have hJ7 := hidden (hJ6.out.step hBy)
          clear hst hBy hJ6
          go_wp2
          go_roundw
          case rel => exact ⟨_, _, _, _, _, k + 1, by go_num, by omega, by omega, hJ7, hK, by omega⟩
          case measure => simp [intOf]; omega
        · have hk1' : ¬ kd = 1 := hk1
          have hk2' : ¬ kd = 2 := hk2
          have h1 := madd_c cs kn y.drew (hJy.out.step (Below.refl _ _).drew).m hF0 hm0 hm2 hsz (by omega) (by omega)
          have hcell : Hid (∀ x : World, x.heap[wr.heap.size]? = y.heap[wr.heap.size]? → x.cell? ⟨wr.heap.size, 1, none⟩ = some (.string cs) ∧ x.cell? ⟨wr.heap.size, 2, none⟩ = some (.int .i64 kn)) := fun x hx => by
            have h := hx.trans hPy.out
            simp [World.cell?, h]
          have hS := hcell.out y.drew rfl
          have hqa : (addAns most L cs kn != addAns most L cs kn) = false := by simp
          have hwl : Hid (wr.heap.size < y.heap.size) := (Array.getElem?_eq_some_iff.1 hPy.out).1
          go_wp2_with fail
          refine (hcn _).mono ?_
          rintro e q ⟨rfl, rfl⟩
          go_wp2_with fail
          rw [hy.out]
          clear hcn hy f0 f1 f2
          go_region_held3 (fun x => x.cell? ⟨wr.heap.size, 1, none⟩ = some (.string cs) ∧ x.cell? ⟨wr.heap.size, 2, none⟩ = some (.int .i64 kn)) (first | exact hS | go_keep) (first
            | (go_at_call 8; refine h1.mono ?_; rintro e x1 ⟨n', D', rfl, hM1, hs1, hn1⟩
               have hJ1 := hidden ((hJy.out.step (Below.refl _ _).drew).addM hM1.out hs1.out)
               have hblk1 := hs1.out.block wr.heap.size hwl.out (by have := hws.out; simp; omega)
               have hS := hcell.out x1 hblk1
               have h2 := radd_c cs kn x1 hJ1.out.xr hK.out.nil hJ1.out.hB hF0 hm0 hm2 hsz (by omega))
            | (go_at_call 9; refine h2.mono ?_; rintro e z ⟨a', c', rfl, hR1, hnil1, hs2, hgr⟩
               have hJ := hidden (hJ1.out.addX hR1 hs2)
               have hS := hcell.out z ((hs2.block wr.heap.size (Nat.lt_of_lt_of_le hwl.out hs1.out.size) (fun hm => by
                 rcases List.mem_cons.1 hm with h0 | h0
                 · have := hws.out; omega
                 · have := hrw.out _ h0; omega)).trans hblk1))
            | fail)
          replace hK := hidden (hK.out.add hsz hnil1)
          have hn1' := hn1.out
          clear h1 h2 hcell hS hblk1 hM1 hs1 hn1 hJ1 hR1 hnil1 hs2 hgr hJy hPy hrw hws hwl hF0 hlen0
          generalize addTo most L cs kn = L2 at *
          have hF := hK.out.fine
          have hS0 := hF.nonneg
          have hS1 := hF.small
          have hlen := hK.out.len
          have hw : IntKind.i64.wrap (most - sumC L2) = most - sumC L2 := by rw [IntKind.wrap_i64]; omega
          have hq1 : (sumC L2 != sumC L2) = false := by simp
          have hq2 : (most - sumC L2 != most - sumC L2) = false := by simp
          have hq3 : (ofC ak L2 != ofC ak L2) = false := by simp
          have h1 := mall_c z hJ.out.m
          have h2 := rall_c z hJ.out.xr hF hm2 (by omega)
          have h3 := mleft_c z hJ.out.m hm0 hm2 hS0 hS1
          go_wp2_with fail
          refine h1.mono ?_
          rintro e z1 ⟨rfl, rfl⟩
          go_wp2_with fail
          refine h2.mono ?_
          rintro e z2 ⟨rfl, rfl⟩
          go_wp2_with fail
          refine h3.mono ?_
          rintro e y ⟨rfl, hBy⟩
          have hJ1 := hidden (hJ.out.step hBy.out)
          clear h1 h2 h3 hBy hJ
          have h1 := rall_c y hJ1.out.xr hF hm2 (by omega)
          have h2 := mof_c ak y hJ1.out.m (by omega)
          have h3 := rof_c ak y hJ1.out.xr (by omega)
          have h4 := mnames_c y hJ1.out.m (by omega) hF.strict
          go_wp2_with fail
          refine h1.mono ?_
          rintro e z1 ⟨rfl, rfl⟩
          go_wp2_with fail
          refine h2.mono ?_
          rintro e z2 ⟨rfl, rfl⟩
          go_wp2_with fail
          refine h3.mono ?_
          rintro e z3 ⟨rfl, rfl⟩
          go_wp2_with fail
          refine h4.mono ?_
          rintro e y1 ⟨g1, c1, rfl, ho1, hBy⟩
          have hJ2 := hidden (hJ1.out.step hBy)
          replace ho1 := hidden ho1
          clear h1 h2 h3 h4 hBy hJ1 hq1 hq2 hq3 hw
          have h1 := rnames_c y1 hJ2.out.xr (by omega)
          go_wp2_with fail
          refine h1.mono ?_
          rintro e y2 ⟨a2, c2, rfl, ho2, hBy⟩
          have hJ3 := hidden (hJ2.out.step hBy)
          have hst := sameT_c (namesC L2) (some ⟨g1, 0, none⟩) a2 c1 c2 y2 (owns_tx' (owns_keepT ho1.out hBy)) (owns_tx' ho2) (by rw [namesC_len]; omega)
          rw [namesC_len] at hst
          clear h1 hBy hJ2 ho1 ho2
          go_wp2_with fail
          refine hst.mono ?_
          rintro e y3 ⟨rfl, hBy⟩
          have hJ4 := hidden (hJ3.out.step hBy)
          clear hst hBy hJ3
          have h1 := mlines_c y3 hJ4.out.m hF hm2 (by omega) (fun y hy => hT.out y (hJ4.out.below.trans (hy.mono hJ4.out.below.size)))
          go_wp2_with fail
          refine h1.mono ?_
          rintro e y4 ⟨a3, c3, rfl, ho3, hBy⟩
          have hJ5 := hidden (hJ4.out.step hBy)
          replace ho3 := hidden ho3
          clear h1 hBy hJ4
          have h1 := rlines_c y4 hJ5.out.xr hF hm2 (by omega)
          go_wp2_with fail
          refine h1.mono ?_
          rintro e y5 ⟨a4, c4, rfl, ho4, hBy⟩
          have hJ6 := hidden (hJ5.out.step hBy)
          have hst := sameT_c (linesC L2) a3 a4 c3 c4 y5 (owns_tx' (owns_keepT ho3.out hBy)) (owns_tx' ho4) (by rw [linesC_len]; omega)
          clear h1 hBy hJ5 ho3 ho4
          go_wp2_with fail
          refine hst.mono ?_
          rintro e y6 ⟨rfl, hBy⟩
          have hJ7 := hidden (hJ6.out.step hBy)
          clear hst hBy hJ6
          go_wp2
          go_roundw
          case rel => exact ⟨_, _, _, _, _, k + 1, by go_num, by omega, by omega, hJ7, hK, by omega⟩
          case measure => simp [intOf]; omega
    · have hJf := hidden hJ.out.below
      by_cases hlt3 : k < NA
      all_goals
        first
          | (have hi3 : ¬ (k : Int) < 30 := by omega)
          | (have hi3 : ¬ (k : Int) < (NA : Int) := by omega)
        first
          | (have hi4 : (k : Int) < (NA : Int) := by omega)
          | skip
        clear hlt
        go_wp2_with fail
        refine (hlv.out _ (GoX.Calm.of_below hJf.out)).mono ?_
        rintro e x2 ⟨rfl, hc⟩
        have hfin := hidden ((GoX.Calm.of_below hJf.out).trans hc)
        clear hc
        go_wp2
        go_ret
        exact ⟨rfl, hfin.out⟩
end Go.Proofs.YtoijkbnjcnedjaaDoor
