/-
  THE LAW QueryTells, with lives() as a premise.
-/
import Derived.Test.YtpjcjlbjcegjgaaGreatDoorQFew
import Derived.Test.YtpjcjlbjcegjgaaGreatDoorQSameT
import Derived.Test.YtpjcjlbjcegjgaaGreatDoorQTests
import Derived.Test.YtpjcjlbjcegjgaaGreatDoorQNames2
import Derived.Test.YtpjcjlbjcegjgaaGreatDoorSameT
import Derived.Test.YtpjcjlbjcegjgaaGreatDoorRegs
import Derived.Deep.RegionHeld3
namespace Go.Proofs.YtpjcjlbjcegjgaaGreatDoor
open Go.ChangeShapes Go.WideShapes Go.ChangeAt Go.RowKit

theorem cutB_twice (s : ByteArray) (m : Nat) : cutB (cutB s m) m = cutB s m := by
  have h := cutB_size s m
  generalize cutB s m = t at *
  simp [cutB, show ¬ m < t.size by omega]
theorem few_few : ∀ (d : Nat) (r : Rx), Rx.few d (Rx.few d r) = Rx.few d r
  | 0, r => by
    show Rx.mk r.k (cutB (cutB r.s 32) 32) r.b [] = Rx.mk r.k (cutB r.s 32) r.b []
    rw [cutB_twice]
  | d + 1, r => by
    show Rx.mk r.k (cutB (cutB r.s 32) 32) r.b ((((r.ps.take 3).map (Rx.few d)).take 3).map (Rx.few d)) = Rx.mk r.k (cutB r.s 32) r.b ((r.ps.take 3).map (Rx.few d))
    rw [cutB_twice, List.take_of_length_le (by simp; omega), List.map_map]
    congr 1
    refine List.map_congr_left fun x _ => ?_
    exact few_few d x
theorem tst_twice (x : Tst) : x.few.few = x.few := by simp [Tst.few, cutB_twice]
theorem take_map_twice {α : Type} (f : α → α) (hf : ∀ x, f (f x) = f x) (n : Nat) (l : List α) : (((l.take n).map f).take n).map f = (l.take n).map f := by
  rw [List.take_of_length_le (by simp; omega), List.map_map]
  exact List.map_congr_left fun x _ => hf x
theorem pl_twice (x : Pl) : x.few.few = x.few := by
  simp only [Pl.few, cutB_twice, Pl.mk.injEq, true_and]
  exact take_map_twice _ tst_twice 9 x.ts
theorem pth_twice (x : Pth) : x.few.few = x.few := by simp [Pth.few, cutB_twice, few_few]
theorem ps_twice (l : List Pl) : (((l.take 17).map Pl.few).take 17).map Pl.few = (l.take 17).map Pl.few := take_map_twice _ pl_twice 17 l
theorem es_twice (l : List Pth) : (((l.take 17).map Pth.few).take 17).map Pth.few = (l.take 17).map Pth.few := take_map_twice _ pth_twice 17 l
theorem rs_twice (l : List ByteArray) : (((l.take 33).map fun s => cutB s 32).take 33).map (fun s => cutB s 32) = (l.take 33).map fun s => cutB s 32 := take_map_twice _ (fun s => cutB_twice s 32) 33 l
theorem PlacesAt.holds {B : Nat} {u : Value} {vs : List PlV} {ps : List Pl} {x : World} (h : PlacesAt B u vs ps x) : HoldsP x u ps :=
  ⟨vs, holdsR_of_owns (R := placeR) h.row, h.len, fun i hi => ⟨(h.each i hi).1, (h.each i hi).2.1, holdsR_of_owns (R := testR) (h.each i hi).2.2⟩⟩
theorem PathsAt.holds {B : Nat} {u av : Value} {us : List PthV} {es : List Pth} {x : World} (h : PathsAt B u av us es x) : HoldsE x u es :=
  ⟨us, holdsR_of_owns (R := pathR) h.row, h.len, fun i hi => ⟨(h.each i hi).1, 4, (h.each i hi).2.weak fun _ _ _ => trivial⟩⟩
theorem tx_holds {w : World} {B n : Nat} {v : Value} {L : List ByteArray} (h : w.ownsRow B 9 1 v n (tx L)) : Holds w v (tx L) := holds_of_owns h
/-- A query in a box, while its cells are written. -/
structure QB (B b : Nat) (x : World) (cs : Array Value) (pu : Value) (vs : List PlV) (ps : List Pl) (eu : Value) (us : List PthV) (es : List Pth) (ru : Value) (rs : List ByteArray) : Prop where
  box : x.heap[b]? = some (.cells cs 26)
  places : PlacesAt B pu vs ps x
  paths : PathsAt B eu ru us es x
  rets : x.ownsRow B 9 1 ru rs.length (tx rs)
theorem QB.set {B b : Nat} {x : World} {cs : Array Value} {pu : Value} {vs : List PlV} {ps : List Pl} {eu : Value} {us : List PthV} {es : List Pth} {ru : Value} {rs : List ByteArray} (h : QB B b x cs pu vs ps eu us es ru rs) (hb : b < B) (j : Nat) (v : Value) : QB B b (x.setCell ⟨b, j, none⟩ v) (cs.setIfInBounds j v) pu vs ps eu us es ru rs :=
  ⟨set_heap h.box _ _, h.places.set h.box _ _, h.paths.set h.box hb _ _, own_set h.rets h.box (by decide) _ _⟩
/-- A query in a box. -/
structure QT (b : Nat) (cs : Array Value) (pu : Value) (ps : List Pl) (eu : Value) (es : List Pth) (ru : Value) (rs : List ByteArray) (x : World) : Prop where
  box : x.heap[b]? = some (.cells cs 26)
  hp : HoldsP x pu ps
  he : HoldsE x eu es
  hr : Holds x ru (tx rs)
theorem QT.step {b : Nat} {cs : Array Value} {pu : Value} {ps : List Pl} {eu : Value} {es : List Pth} {ru : Value} {rs : List ByteArray} {x z : World} (h : QT b cs pu ps eu es ru rs x) (hB : Below x.heap.size x z) : QT b cs pu ps eu es ru rs z :=
  ⟨box_below h.box hB, h.hp.below hB, h.he.below hB, h.hr.below hB⟩
theorem rowT {w : World} {B : Nat} {a : Option Addr} {c : Nat} {L : List Tst} (h : w.ownsRow B 42 5 (.slice a L.length c) L.length (testR.flat L)) : RowAt w a (testR.flat L) := by
  obtain ⟨a', c', he, hr⟩ := holdsR_of_owns (R := testR) h
  simp only [Value.slice.injEq] at he
  obtain ⟨rfl, _, _⟩ := he
  exact hr
theorem testsQ_len (ps : List Pl) (v : ByteArray) (hs : ∀ p ∈ ps, p.ts.length ≤ 9) : (testsQ ps v).length ≤ ps.length * 9 := by
  unfold testsQ
  induction ps with
  | nil => simp
  | cons p r ih =>
    have h1 := hs p List.mem_cons_self
    have h2 := ih fun q hq => hs q (List.mem_cons_of_mem _ hq)
    by_cases hv : p.v = v
    · simp only [List.filter_cons, hv, decide_true, if_true, List.flatMap_cons, List.length_append, List.length_cons, Nat.add_mul] at *
      omega
    · simp only [List.filter_cons, hv, decide_false, Bool.false_eq_true, if_false, List.length_cons, Nat.add_mul] at *
      omega
set_option maxHeartbeats 6400000 in
set_option maxRecDepth 100000 in
theorem law_c (ps : List Pl) (es : List Pth) (rs : List ByteArray) (qc : Bool) (sk li : Int) (ct : Bool) (na : Option Addr) (N0 nc : Nat) (ea : Option Addr) (M0 ec : Nat) (ra : Option Addr) (R0 rc : Nat) (v : ByteArray) (w : World) (hP : HoldsP w (.slice na N0 nc) ps) (hE : HoldsE w (.slice ea M0 ec) es) (hR : Holds w (.slice ra R0 rc) (tx rs))
    (hN : ps.length ≤ maxLen) (hM : es.length ≤ maxLen) (hRl : rs.length ≤ maxLen) (hT : ∀ x ∈ ps, x.ts.length ≤ maxLen)
    (hlv : ∀ x, GoX.Calm w x → Calls Tryz.prog 17 #[] x fun e w' => e = .returned (.bool true) ∧ GoX.Calm x w') :
    Calls Tryz.prog 3 #[.agg #[.slice na N0 nc, .slice ea M0 ec, .slice ra R0 rc, .bool qc, .int .i64 sk, .int .i64 li, .bool ct], .string v] w fun e w' => e = .returned (.bool true) ∧ GoX.Calm w w' := by
  unfold maxLen at hN hM hRl hT
  obtain ⟨wb, hwb⟩ : ∃ wb, Hid (wb = w.alloc (.cells #[.slice na N0 nc, .slice ea M0 ec, .slice ra R0 rc, .bool qc, .int .i64 sk, .int .i64 li, .bool ct] 26)) := ⟨_, hidden rfl⟩
  have hB0 : Hid (Below w.heap.size w wb) := by show Below ..; rw [hwb.out]; exact (Below.refl _ _).alloc (Nat.le_refl _) _
  have hA0 : wb.heap[w.heap.size]? = some (.cells #[.slice na N0 nc, .slice ea M0 ec, .slice ra R0 rc, .bool qc, .int .i64 sk, .int .i64 li, .bool ct] 26) := by rw [hwb.out]; exact heap_alloc_new w _
  have hsz : Hid (wb.heap.size = w.heap.size + 1) := by show _ = _; rw [hwb.out]; simp
  have hf1 := qfew_c ps es rs qc sk li ct na N0 nc ea M0 ec ra R0 rc wb (hP.below hB0.out) (hE.below hB0.out) (hR.below hB0.out) hN hM hRl hT
  have hcut := hidden fun z => cut_c v 32 z (by decide)
  have ht1 := hidden (ps_twice ps)
  have ht2 := hidden (es_twice es)
  have ht3 := hidden (rs_twice rs)
  have hl1 : Hid (((ps.take 17).map Pl.few).length ≤ 17) := by show _ ≤ _; simp; omega
  have hl2 : Hid (((es.take 17).map Pth.few).length ≤ 17) := by show _ ≤ _; simp; omega
  have hl3 : Hid (((rs.take 33).map fun s => cutB s 32).length ≤ 33) := by show _ ≤ _; simp; omega
  have hv1 : Hid (∀ p ∈ (ps.take 17).map Pl.few, p.v.size ≤ 1000 ∧ p.ts.length ≤ 9) := fun p hp => by
    obtain ⟨q, _, rfl⟩ := List.mem_map.1 hp
    exact ⟨Nat.le_trans (cutB_size q.v 32) (by decide), by simp [Pl.few]; omega⟩
  generalize (ps.take 17).map Pl.few = Ps at *
  generalize (es.take 17).map Pth.few = Es at *
  generalize (rs.take 33).map (fun s => cutB s 32) = Rs at *
  generalize cutB v 32 = t at *
  replace hlv := hidden hlv
  obtain ⟨⟨x0, x1, x2, x3, x4, x5, x6⟩, -⟩ := box7q hA0
  replace hA0 := hidden hA0
  clear hP hE hR hN hM hRl hT
  go_enter Tryz.func3, Tryz.ntmps3
  go_wp2_with fail
  rw [← hwb.out]
  go_wp2_with fail
  refine hf1.mono ?_
  rintro e w1 ⟨vs, pa, pn, pc, us, fa, fn, fc, ua, un, uc, rfl, hPl, hPt, hRt, hB1⟩
  have hQ1 : QB (wb.heap.size + 3) w.heap.size w1 #[.slice na N0 nc, .slice ea M0 ec, .slice ra R0 rc, .bool qc, .int .i64 sk, .int .i64 li, .bool ct] (.slice pa pn pc) vs Ps (.slice fa fn fc) us Es (.slice ua un uc) Rs := ⟨box_below hA0.out hB1, hPl, hPt, hRt⟩
  have hbB : w.heap.size < wb.heap.size + 3 := by rw [hsz.out]; omega
  have hQ2 := hidden (((((((hQ1.set hbB 0 (.slice pa pn pc)).set hbB 1 (.slice fa fn fc)).set hbB 2 (.slice ua un uc)).set hbB 3 (.bool qc)).set hbB 4 (.int .i64 sk)).set hbB 5 (.int .i64 li)).set hbB 6 (.bool ct))
  have hBy : Hid (Below w.heap.size w w1) := hB0.out.trans (hB1.mono hB0.out.size)
  have hBx := hidden (((((((hBy.out.setCell (p := ⟨w.heap.size, 0, none⟩) (Nat.le_refl _) (.slice pa pn pc)).setCell (p := ⟨w.heap.size, 1, none⟩) (Nat.le_refl _) (.slice fa fn fc)).setCell (p := ⟨w.heap.size, 2, none⟩) (Nat.le_refl _) (.slice ua un uc)).setCell (p := ⟨w.heap.size, 3, none⟩) (Nat.le_refl _) (.bool qc)).setCell (p := ⟨w.heap.size, 4, none⟩) (Nat.le_refl _) (.int .i64 sk)).setCell (p := ⟨w.heap.size, 5, none⟩) (Nat.le_refl _) (.int .i64 li)).setCell (p := ⟨w.heap.size, 6, none⟩) (Nat.le_refl _) (.bool ct))
  obtain ⟨⟨y0, y1, y2, y3, y4, y5, y6⟩, hz⟩ := box7q hQ1.box
  have z0 := hz 0
  have z1 := hz 1
  have z2 := hz 2
  have z3 := hz 3
  have z4 := hz 4
  have z5 := hz 5
  have z6 := hz 6
  clear hf1 hPl hPt hRt hB1 hQ1 hbB hz x0 x1 x2 x3 x4 x5 x6 hBy hB0 hsz
  go_wp2_with fail
  refine (hcut.out _).mono ?_
  rintro e z ⟨rfl, rfl⟩
  go_wp2_with fail
  have hQ3 : Hid (QT w.heap.size #[.slice pa pn pc, .slice fa fn fc, .slice ua un uc, .bool qc, .int .i64 sk, .int .i64 li, .bool ct] (.slice pa pn pc) Ps (.slice fa fn fc) Es (.slice ua un uc) Rs (((((((z.setCell ⟨w.heap.size, 0, none⟩ (.slice pa pn pc)).setCell ⟨w.heap.size, 1, none⟩ (.slice fa fn fc)).setCell ⟨w.heap.size, 2, none⟩ (.slice ua un uc)).setCell ⟨w.heap.size, 3, none⟩ (.bool qc)).setCell ⟨w.heap.size, 4, none⟩ (.int .i64 sk)).setCell ⟨w.heap.size, 5, none⟩ (.int .i64 li)).setCell ⟨w.heap.size, 6, none⟩ (.bool ct))) := ⟨by simpa using hQ2.out.box, hQ2.out.places.holds, hQ2.out.paths.holds, tx_holds hQ2.out.rets⟩
  clear hQ2 y0 y1 y2 y3 y4 y5 y6 z0 z1 z2 z3 z4 z5 z6
  generalize ((((((z.setCell ⟨w.heap.size, 0, none⟩ (.slice pa pn pc)).setCell ⟨w.heap.size, 1, none⟩ (.slice fa fn fc)).setCell ⟨w.heap.size, 2, none⟩ (.slice ua un uc)).setCell ⟨w.heap.size, 3, none⟩ (.bool qc)).setCell ⟨w.heap.size, 4, none⟩ (.int .i64 sk)).setCell ⟨w.heap.size, 5, none⟩ (.int .i64 li)).setCell ⟨w.heap.size, 6, none⟩ (.bool ct) = x at hQ3 hBx ⊢
  have hcz : Hid (∀ y, Below x.heap.size x y → y.cell? ⟨w.heap.size, 0, none⟩ = some (.slice pa pn pc) ∧ y.cell? ⟨w.heap.size, 1, none⟩ = some (.slice fa fn fc) ∧ y.cell? ⟨w.heap.size, 2, none⟩ = some (.slice ua un uc) ∧ y.cell? ⟨w.heap.size, 3, none⟩ = some (.bool qc) ∧ y.cell? ⟨w.heap.size, 4, none⟩ = some (.int .i64 sk) ∧ y.cell? ⟨w.heap.size, 5, none⟩ = some (.int .i64 li) ∧ y.cell? ⟨w.heap.size, 6, none⟩ = some (.bool ct)) := fun y hy => by
    obtain ⟨h, -⟩ := box7q (hQ3.out.step hy).box
    exact h
  have kk : Hid (Below x.heap.size x x.drew) := (Below.refl _ _).drew
  have hS := hcz.out x.drew kk.out
  have hts : Hid (∀ k, (testsQ (Ps.take k) t).length ≤ 90000) := fun k => by
    have h1 := testsQ_len (Ps.take k) t fun p hp => (hv1.out p (List.mem_of_mem_take hp)).2
    have h2 : (Ps.take k).length ≤ Ps.length := by simp; omega
    have h3 := hl1.out
    omega
  have hTl : (testsQ Ps t).length ≤ 1000000 := by
    have := hts.out Ps.length
    rw [List.take_length] at this; omega
  have hVl : (varsQ Ps).length ≤ 1000000 := by have := varsQ_le Ps; have := hl1.out; omega
  have hNl : (namesQ Es).length ≤ 1000000 := by have := namesQ_le Es; have := hl2.out; omega
  have hLl : (labelsQ Ps t).length ≤ 1000000 := by have := labelsQ_le Ps t; have := hl1.out; omega
  have hp9 : Ps.length ≤ 90000 := by have := hl1.out; omega
  have he9 : Es.length ≤ 90000 := by have := hl2.out; omega
  have hfew : Hid (∀ z, Below x.heap.size x z → Calls Tryz.prog 5 #[.agg #[.slice pa pn pc, .slice fa fn fc, .slice ua un uc, .bool qc, .int .i64 sk, .int .i64 li, .bool ct]] z fun e w' => ∃ (pa : Option Addr) (pn pc : Nat) (fa : Option Addr) (fn fc : Nat) (ua : Option Addr) (un uc : Nat), e = .returned (.agg #[.slice pa pn pc, .slice fa fn fc, .slice ua un uc, .bool qc, .int .i64 sk, .int .i64 li, .bool ct]) ∧ HoldsP w' (.slice pa pn pc) Ps ∧ HoldsE w' (.slice fa fn fc) Es ∧ Below z.heap.size z w') := fun z hz => by
    have hq := hQ3.out.step hz
    have h := qfew_c Ps Es Rs qc sk li ct pa pn pc fa fn fc ua un uc z hq.hp hq.he hq.hr (by have := hl1.out; omega) (by have := hl2.out; omega) (by have := hl3.out; omega) (fun y hy => by have := (hv1.out y hy).2; omega)
    rw [ht1.out, ht2.out] at h
    exact h.mono fun e w' ⟨vs, pa, pn, pc, us, fa, fn, fc, ua, un, uc, he, h1, h2, _, hB⟩ => ⟨pa, pn, pc, fa, fn, fc, ua, un, uc, he, h1.holds, h2.holds, hB⟩
  have hqv : Hid (∀ (z : World) (a1 : Option Addr) (n1 c1 : Nat) (a2 : Option Addr) (n2 c2 : Nat) (a3 : Option Addr) (n3 c3 : Nat) (b1 : Bool) (i1 i2 : Int) (b2 : Bool), HoldsP z (.slice a1 n1 c1) Ps → Calls Tryz.prog 8 #[.agg #[.slice a1 n1 c1, .slice a2 n2 c2, .slice a3 n3 c3, .bool b1, .int .i64 i1, .int .i64 i2, .bool b2]] z fun e w' => ∃ (a : Option Addr) (c : Nat), e = .returned (.slice a (varsQ Ps).length c) ∧ RowAt w' a (tx (varsQ Ps)) ∧ Below z.heap.size z w') := fun z a1 n1 c1 a2 n2 c2 a3 n3 c3 b1 i1 i2 b2 h => (qvarsQ_c Ps _ _ _ _ _ _ _ _ _ _ _ _ _ z h hp9 (fun p hp => (hv1.out p hp).1)).mono fun e w' ⟨a, c, he, ho, hB⟩ => ⟨a, c, he, owns_tx ho, hB⟩
  have hrv : Hid (∀ (z : World) (a1 : Option Addr) (n1 c1 : Nat) (a2 : Option Addr) (n2 c2 : Nat) (a3 : Option Addr) (n3 c3 : Nat) (b1 : Bool) (i1 i2 : Int) (b2 : Bool), HoldsP z (.slice a1 n1 c1) Ps → Calls Tryz.prog 9 #[.agg #[.slice a1 n1 c1, .slice a2 n2 c2, .slice a3 n3 c3, .bool b1, .int .i64 i1, .int .i64 i2, .bool b2]] z fun e w' => ∃ (a : Option Addr) (c : Nat), e = .returned (.slice a (varsQ Ps).length c) ∧ RowAt w' a (tx (varsQ Ps)) ∧ Below z.heap.size z w') := fun z a1 n1 c1 a2 n2 c2 a3 n3 c3 b1 i1 i2 b2 h => (rvarsQ_c Ps _ _ _ _ _ _ _ _ _ _ _ _ _ z h hp9).mono fun e w' ⟨a, c, he, ho, hB⟩ => ⟨a, c, he, owns_tx ho, hB⟩
  have hqn : Hid (∀ (z : World) (a1 : Option Addr) (n1 c1 : Nat) (a2 : Option Addr) (n2 c2 : Nat) (a3 : Option Addr) (n3 c3 : Nat) (b1 : Bool) (i1 i2 : Int) (b2 : Bool), HoldsE z (.slice a2 n2 c2) Es → Calls Tryz.prog 10 #[.agg #[.slice a1 n1 c1, .slice a2 n2 c2, .slice a3 n3 c3, .bool b1, .int .i64 i1, .int .i64 i2, .bool b2]] z fun e w' => ∃ (a : Option Addr) (c : Nat), e = .returned (.slice a (namesQ Es).length c) ∧ RowAt w' a (tx (namesQ Es)) ∧ Below z.heap.size z w') := fun z a1 n1 c1 a2 n2 c2 a3 n3 c3 b1 i1 i2 b2 h => (qnamesQ_c Es _ _ _ _ _ _ _ _ _ _ _ _ _ z h he9).mono fun e w' ⟨a, c, he, ho, hB⟩ => ⟨a, c, he, owns_tx ho, hB⟩
  have hrn : Hid (∀ (z : World) (a1 : Option Addr) (n1 c1 : Nat) (a2 : Option Addr) (n2 c2 : Nat) (a3 : Option Addr) (n3 c3 : Nat) (b1 : Bool) (i1 i2 : Int) (b2 : Bool), HoldsE z (.slice a2 n2 c2) Es → Calls Tryz.prog 11 #[.agg #[.slice a1 n1 c1, .slice a2 n2 c2, .slice a3 n3 c3, .bool b1, .int .i64 i1, .int .i64 i2, .bool b2]] z fun e w' => ∃ (a : Option Addr) (c : Nat), e = .returned (.slice a (namesQ Es).length c) ∧ RowAt w' a (tx (namesQ Es)) ∧ Below z.heap.size z w') := fun z a1 n1 c1 a2 n2 c2 a3 n3 c3 b1 i1 i2 b2 h => (rnamesQ_c Es _ _ _ _ _ _ _ _ _ _ _ _ _ z h he9).mono fun e w' ⟨a, c, he, ho, hB⟩ => ⟨a, c, he, owns_tx ho, hB⟩
  have hqt : Hid (∀ (z : World) (a1 : Option Addr) (n1 c1 : Nat) (a2 : Option Addr) (n2 c2 : Nat) (a3 : Option Addr) (n3 c3 : Nat) (b1 : Bool) (i1 i2 : Int) (b2 : Bool), HoldsP z (.slice a1 n1 c1) Ps → Calls Tryz.prog 13 #[.agg #[.slice a1 n1 c1, .slice a2 n2 c2, .slice a3 n3 c3, .bool b1, .int .i64 i1, .int .i64 i2, .bool b2], .string t] z fun e w' => ∃ (a : Option Addr) (c : Nat), e = .returned (.slice a (testsQ Ps t).length c) ∧ RowAt w' a (testR.flat (testsQ Ps t)) ∧ Below z.heap.size z w') := fun z a1 n1 c1 a2 n2 c2 a3 n3 c3 b1 i1 i2 b2 h => (qtestsQ_c Ps t _ _ _ _ _ _ _ _ _ _ _ _ _ z h hp9 hts.out).mono fun e w' ⟨a, c, he, ho, hB⟩ => ⟨a, c, he, rowT ho, hB⟩
  have hrt : Hid (∀ (z : World) (a1 : Option Addr) (n1 c1 : Nat) (a2 : Option Addr) (n2 c2 : Nat) (a3 : Option Addr) (n3 c3 : Nat) (b1 : Bool) (i1 i2 : Int) (b2 : Bool), HoldsP z (.slice a1 n1 c1) Ps → Calls Tryz.prog 14 #[.agg #[.slice a1 n1 c1, .slice a2 n2 c2, .slice a3 n3 c3, .bool b1, .int .i64 i1, .int .i64 i2, .bool b2], .string t] z fun e w' => ∃ (a : Option Addr) (c : Nat), e = .returned (.slice a (testsQ Ps t).length c) ∧ RowAt w' a (testR.flat (testsQ Ps t)) ∧ Below z.heap.size z w') := fun z a1 n1 c1 a2 n2 c2 a3 n3 c3 b1 i1 i2 b2 h => (rtestsQ_c Ps t _ _ _ _ _ _ _ _ _ _ _ _ _ z h hp9 hts.out).mono fun e w' ⟨a, c, he, ho, hB⟩ => ⟨a, c, he, rowT ho, hB⟩
  have hql : Hid (∀ (z : World) (a1 : Option Addr) (n1 c1 : Nat) (a2 : Option Addr) (n2 c2 : Nat) (a3 : Option Addr) (n3 c3 : Nat) (b1 : Bool) (i1 i2 : Int) (b2 : Bool), HoldsP z (.slice a1 n1 c1) Ps → Calls Tryz.prog 15 #[.agg #[.slice a1 n1 c1, .slice a2 n2 c2, .slice a3 n3 c3, .bool b1, .int .i64 i1, .int .i64 i2, .bool b2], .string t] z fun e w' => ∃ (a : Option Addr) (c : Nat), e = .returned (.slice a (labelsQ Ps t).length c) ∧ RowAt w' a (tx (labelsQ Ps t)) ∧ Below z.heap.size z w') := fun z a1 n1 c1 a2 n2 c2 a3 n3 c3 b1 i1 i2 b2 h => (qlabelsQ_c Ps t _ _ _ _ _ _ _ _ _ _ _ _ _ z h hp9).mono fun e w' ⟨a, c, he, ho, hB⟩ => ⟨a, c, he, owns_tx ho, hB⟩
  have hrl : Hid (∀ (z : World) (a1 : Option Addr) (n1 c1 : Nat) (a2 : Option Addr) (n2 c2 : Nat) (a3 : Option Addr) (n3 c3 : Nat) (b1 : Bool) (i1 i2 : Int) (b2 : Bool), HoldsP z (.slice a1 n1 c1) Ps → Calls Tryz.prog 16 #[.agg #[.slice a1 n1 c1, .slice a2 n2 c2, .slice a3 n3 c3, .bool b1, .int .i64 i1, .int .i64 i2, .bool b2], .string t] z fun e w' => ∃ (a : Option Addr) (c : Nat), e = .returned (.slice a (labelsQ Ps t).length c) ∧ RowAt w' a (tx (labelsQ Ps t)) ∧ Below z.heap.size z w') := fun z a1 n1 c1 a2 n2 c2 a3 n3 c3 b1 i1 i2 b2 h => (rlabelsQ_c Ps t _ _ _ _ _ _ _ _ _ _ _ _ _ z h hp9).mono fun e w' ⟨a, c, he, ho, hB⟩ => ⟨a, c, he, owns_tx ho, hB⟩
  generalize varsQ Ps = V at *
  generalize namesQ Es = NM at *
  generalize testsQ Ps t = TT at *
  generalize labelsQ Ps t = LB at *
  clear ht1 ht2 ht3 hl1 hl2 hl3 hv1 hts hp9 he9 hcut
  go_region_held3 (fun y => y.cell? ⟨w.heap.size, 0, none⟩ = some (.slice pa pn pc) ∧ y.cell? ⟨w.heap.size, 1, none⟩ = some (.slice fa fn fc) ∧ y.cell? ⟨w.heap.size, 2, none⟩ = some (.slice ua un uc) ∧ y.cell? ⟨w.heap.size, 3, none⟩ = some (.bool qc) ∧ y.cell? ⟨w.heap.size, 4, none⟩ = some (.int .i64 sk) ∧ y.cell? ⟨w.heap.size, 5, none⟩ = some (.int .i64 li) ∧ y.cell? ⟨w.heap.size, 6, none⟩ = some (.bool ct)) (first | exact hS | go_keep) (first
    | (go_at_call 5; refine (hfew.out _ kk.out).mono ?_; rintro e y9 ⟨pa9, pn9, pc9, fa9, fn9, fc9, ua9, un9, uc9, rfl, hP9, hE9, hBz⟩
       have kk := hidden (kk.out.trans (hBz.mono kk.out.size))
       have hS := hcz.out y9 kk.out
       have oP := hidden hP9
       have oE := hidden hE9)
    | (go_at_call 8; refine (hqv.out _ _ _ _ _ _ _ _ _ _ _ _ _ _ oP.out).mono ?_; rintro e y9 ⟨a9, c9, rfl, hr9, hBz⟩
       have kk := hidden (kk.out.trans (hBz.mono kk.out.size))
       have hS := hcz.out y9 kk.out
       have oA := hidden hr9)
    | (go_at_call 13; refine (hqt.out _ _ _ _ _ _ _ _ _ _ _ _ _ _ oP.out).mono ?_; rintro e y9 ⟨a9, c9, rfl, hr9, hBz⟩
       have kk := hidden (kk.out.trans (hBz.mono kk.out.size))
       have hS := hcz.out y9 kk.out
       have oA := hidden hr9)
    | (go_at_call 15; refine (hql.out _ _ _ _ _ _ _ _ _ _ _ _ _ _ oP.out).mono ?_; rintro e y9 ⟨a9, c9, rfl, hr9, hBz⟩
       have kk := hidden (kk.out.trans (hBz.mono kk.out.size))
       have hS := hcz.out y9 kk.out
       have oA := hidden hr9)
    | (go_at_call 10; refine (hqn.out _ _ _ _ _ _ _ _ _ _ _ _ _ _ oE.out).mono ?_; rintro e y9 ⟨a9, c9, rfl, hr9, hBz⟩
       have kk := hidden (kk.out.trans (hBz.mono kk.out.size))
       have hS := hcz.out y9 kk.out
       have oA := hidden hr9)
    | (go_at_call 9; refine (hrv.out _ _ _ _ _ _ _ _ _ _ _ _ _ _ (hQ3.out.step kk.out).hp).mono ?_; rintro e y9 ⟨a8, c8, rfl, hr8, hBz⟩
       have kk := hidden (kk.out.trans (hBz.mono kk.out.size))
       have hS := hcz.out y9 kk.out
       have oA := hidden (oA.out.below hBz)
       have oB := hidden hr8)
    | (go_at_call 14; refine (hrt.out _ _ _ _ _ _ _ _ _ _ _ _ _ _ (hQ3.out.step kk.out).hp).mono ?_; rintro e y9 ⟨a8, c8, rfl, hr8, hBz⟩
       have kk := hidden (kk.out.trans (hBz.mono kk.out.size))
       have hS := hcz.out y9 kk.out
       have oA := hidden (oA.out.below hBz)
       have oB := hidden hr8)
    | (go_at_call 16; refine (hrl.out _ _ _ _ _ _ _ _ _ _ _ _ _ _ (hQ3.out.step kk.out).hp).mono ?_; rintro e y9 ⟨a8, c8, rfl, hr8, hBz⟩
       have kk := hidden (kk.out.trans (hBz.mono kk.out.size))
       have hS := hcz.out y9 kk.out
       have oA := hidden (oA.out.below hBz)
       have oB := hidden hr8)
    | (go_at_call 11; refine (hrn.out _ _ _ _ _ _ _ _ _ _ _ _ _ _ (hQ3.out.step kk.out).he).mono ?_; rintro e y9 ⟨a8, c8, rfl, hr8, hBz⟩
       have kk := hidden (kk.out.trans (hBz.mono kk.out.size))
       have hS := hcz.out y9 kk.out
       have oA := hidden (oA.out.below hBz)
       have oB := hidden hr8)
    | (go_at_call 7; refine (sameT_c _ _ _ _ _ _ oA.out oB.out (by first | exact hVl | exact hNl | exact hLl)).mono ?_; rintro e y9 ⟨rfl, hBz⟩
       have kk := hidden (kk.out.trans (hBz.mono kk.out.size))
       have hS := hcz.out y9 kk.out
       skip)
    | (go_at_call 12; refine (sameTs_c _ _ _ _ _ _ oA.out oB.out hTl).mono ?_; rintro e y9 ⟨rfl, hBz⟩
       have kk := hidden (kk.out.trans (hBz.mono kk.out.size))
       have hS := hcz.out y9 kk.out
       skip)
    | (go_at_call 17; refine (hlv.out _ (GoX.Calm.of_below (hBx.out.trans (kk.out.mono hBx.out.size)))).mono ?_; rintro e y9 ⟨rfl, hCz⟩
       have hlt9 := (Array.getElem?_eq_some_iff.1 (hQ3.out.step kk.out).box).1
       obtain ⟨hS, -⟩ := box7q ((hCz.block _ hlt9).trans (hQ3.out.step kk.out).box)
       have hfin := hidden ((GoX.Calm.of_below (hBx.out.trans (kk.out.mono hBx.out.size))).trans hCz))
    | fail)
  go_wp2
  go_ret
  exact ⟨rfl, hfin.out⟩
end Go.Proofs.YtpjcjlbjcegjgaaGreatDoor
