/-
  HeapPlays' OWN LAW: what a heap tells of any calls, and all that is in it behind each.
-/
import Derived.Test.YtapdkdfgjjdbkaaHAny
import Derived.Test.YtapdkdfgjjdbkaaHSortsLaw
namespace Go.Proofs.Ytapdkdfgjjdbkaa
open Go.ChangeShapes Go.WideShapes Go.ChangeAt Go.RowKit

/-- A slice of tests. -/
def HoldsB (w : World) (v : Value) (bs : List Bool) : Prop := ∃ a cap, v = .slice a bs.length cap ∧ ∀ j, j < bs.length → ∃ b o, a = some ⟨b, o, none⟩ ∧ w.cell? ⟨b, o + j, none⟩ = some (.bool (bs.getD j false))
/-- While the first items are laid. -/
def P1 (B b g cap : Nat) (L : List Pr) (xv : Value) (ds : List Pr) (w y : World) (k : Nat) (l : Value) : Prop :=
  ∃ g2 cap2 es, l = .slice (some ⟨g2, 0, none⟩) k cap2 ∧ es.length = k ∧ (es.map (·.1)).Perm ((ds.take k).map (·.1)) ∧ HR B b g cap L g2 0 cap2 es (ds.map (·.1)) w y ∧ XR xv ds g y
/-- While calls are played. -/
def P2 (B b : Nat) (yv : Value) (dq : List Pr) (w y : World) (k : Nat) (l : Value) : Prop :=
  ∃ g cap L g2 og cap2 es, l = .slice (some ⟨g2, og, none⟩) es.length cap2 ∧ es.length ≤ 12 + k ∧ HR B b g cap L g2 og cap2 es (es.map (·.1)) w y ∧ XR yv dq g y
theorem take_snocP {ds : List Pr} {k : Nat} (hk : k < ds.length) : (ds.take (k + 1)).map (·.1) = (ds.take k).map (·.1) ++ [(ds.getD k pr0).1] := by
  rw [List.take_add_one, List.getElem?_eq_getElem hk, List.map_append]
  simp [List.getD, hk]
/-- The items that are made. -/
theorem made_ds {ys : List It} {m : Nat} {w : World} {B : Nat} {xv : Value} {xs : List Value} (hown : w.ownsRow B 24 4 xv (ys.take m).length xs) (hits : ItsIn 3 w xs ((ys.take m).map fun y => y.few 5)) :
    ∃ ds : List Pr, ds.map (·.1) = (ys.take m).map (fun y => y.few 5) ∧ ds.length ≤ m ∧ w.ownsRow B 24 4 xv ds.length (encs ds) ∧ (∀ p ∈ ds, p.1.few 5 = p.1) ∧ Rows1 w ds ∧ ∃ a c, xv = .slice a ds.length c := by
  obtain ⟨ds, hds, rfl, hdr⟩ := its_ds hits
  have hdn : (ys.take m).length = ds.length := by have := congrArg List.length hds; simp at this; simp; omega
  rw [hdn] at hown
  have hfew : ∀ p ∈ ds, p.1.few 5 = p.1 ∧ p.1.l.length ≤ 1000 := fun p hp => by
    have hm : p.1 ∈ ds.map (·.1) := List.mem_map_of_mem hp
    rw [hds] at hm
    obtain ⟨q, _, hq⟩ := List.mem_map.1 hm
    rw [← hq]
    refine ⟨by simp [It.few, List.take_take], ?_⟩
    simp [It.few]; omega
  refine ⟨ds, hds, by rw [← hdn]; simp; omega, hown, fun p hp => (hfew p hp).1, fun p hp => ⟨hdr p hp, (hfew p hp).2⟩, ?_⟩
  rcases hown.2 with ⟨rfl, h0⟩ | ⟨g, cap, cur, rfl, _⟩
  · exact ⟨_, _, by rw [show ds.length = 0 from h0]⟩
  · exact ⟨_, _, rfl⟩
set_option maxHeartbeats 12800000 in
set_option maxRecDepth 1000000 in
theorem plays_law (v v2 v3 : Value) (ys ys2 : List It) (bs : List Bool) (w : World) (hv : HoldsIL w v ys) (hz : ys.length ≤ 9223372036854775807) (hzz : ∀ y ∈ ys, y.l.length ≤ 9223372036854775807)
    (hv2 : HoldsIL w v2 ys2) (hz2 : ys2.length ≤ 9223372036854775807) (hzz2 : ∀ y ∈ ys2, y.l.length ≤ 9223372036854775807) (hv3 : HoldsB w v3 bs) (hb3 : bs.length ≤ 9223372036854775807)
    (hlv : ∀ x, Calls Try.prog 12 #[] x fun e w' => e = .returned (.bool true) ∧ GoX.Calm x w') :
    Calls Try.prog 5 #[v, v2, v3] w fun e w' => e = .returned (.bool true) ∧ GoX.Calm w w' := by
  obtain ⟨a0, c0, hv0, -⟩ := id hv
  obtain ⟨a1, c1, hv1, -⟩ := id hv2
  have hits := fun x (hx : Below w.heap.size w x) => items_c v ys 12 x (hv.below hx) hz hzz (by omega)
  have hits2 := fun x (hx : Below w.heap.size w x) => items_c v2 ys2 20 x (hv2.below hx) hz2 hzz2 (by omega)
  obtain ⟨a3, c3, rfl, hbs⟩ := hv3
  subst hv0
  subst hv1
  generalize hyl : ys.length = yn at *
  generalize hyl2 : ys2.length = yn2 at *
  have hi0 := hits w (Below.refl _ _)
  replace hbs := hiddenI hbs
  replace hb3 := hiddenI hb3
  clear hv hv2 hz hzz hz2 hzz2 hyl hyl2
  go_enter Try.func5, Try.ntmps5
  go_wp2_with fail
  refine hi0.mono ?_
  rintro e w1 ⟨xv0, rfl, xs0, hown0, hit0, hB0⟩
  obtain ⟨d0, hd0, hd0n, hown0', -, hrow0, -⟩ := made_ds hown0 hit0
  have hnew := new_c xv0 d0 w1 (rowP_of hown0' hrow0.rowed) (by omega) (fun p hp => (hrow0 p hp).2)
  clear hi0 hown0 hit0 hown0' hrow0
  go_wp2_with fail
  refine hnew.mono ?_
  rintro e w2 ⟨b, zs, rfl, hH, hp, hris, hB⟩
  obtain ⟨g, cap, L, hL, hLm⟩ := HeapL.of hH
  obtain ⟨w3, hw3⟩ : ∃ w3, Hid (w3 = w2.alloc (.cells #[] 24)) := ⟨_, hiddenI rfl⟩
  have hB1 : Below w2.heap.size w2 w3 := by rw [hw3.out]; exact (Below.refl _ _).alloc (Nat.le_refl _) _
  have hXn : w3.heap[w2.heap.size]? = some (.cells #[] 24) := by rw [hw3.out]; exact heap_alloc_new _ _
  have hB2 : Below w.heap.size w w3 := hB0.trans ((hB.trans (hB1.mono hB.size)).mono hB0.size)
  have hi := hits w3 hB2
  have hlen0 : ∀ z ∈ d0.map (·.1), z.l.length ≤ 1000 := fun z hz => by
    rw [hd0] at hz
    obtain ⟨q, _, rfl⟩ := List.mem_map.1 hz
    simp [It.few]; omega
  have hHR : Hid (HR w1.heap.size b g cap L w2.heap.size 0 0 [] (d0.map (·.1)) w w3) := by
    obtain ⟨cur, hc⟩ := hL.block
    have h1 := (Array.getElem?_eq_some_iff.1 hc).1
    refine ⟨hL.step hB1, ?_, by rw [hLm]; exact hp, ⟨Nat.le_refl _, ⟨_, hXn⟩, fun j u hj => by simp [encs] at hj⟩, List.Pairwise.nil, by omega, (fun p hp => by cases hp), hlen0, hB2, hB0.size⟩
    have hll : L.length = zs.length := by rw [← hLm]; simp
    refine Up.of_rising fun i j hij hj => ?_
    have e : ∀ k, k < L.length → itF L k = zs.getD k It.none := fun k hk => by
      rw [← hLm]; simp [itF, List.getD, hk]
    rw [e i (by omega), e j hj]
    exact hris i j hij (by omega)
  have hd0h := hiddenI hd0
  clear hnew hits hH hp hris hL hLm hB hB1 hXn hB2 hB0 hlen0 hd0 hd0n
  go_wp2_with fail
  rw [← hw3.out]
  refine hi.mono ?_
  rintro e w4 ⟨xv, rfl, xs, hown, hit, hB3⟩
  obtain ⟨ds, hds, hdn, hown', hfew, hrow, xa, xc, rfl⟩ := made_ds hown hit
  have hdd : d0.map (·.1) = ds.map (·.1) := hd0h.out.trans hds.symm
  have hS1 : Hid (P1 w1.heap.size b g cap L (.slice xa ds.length xc) ds w w4 0 (.slice (some ⟨w2.heap.size, 0, none⟩) 0 0)) := by
    refine ⟨w2.heap.size, 0, [], rfl, rfl, List.Perm.refl _, ?_, owns_base hown' (Nat.zero_le _), hrow, fun e => ?_⟩
    · have := hHR.out.step hB3
      rw [hdd] at this
      exact this
    · have h1 := (hown'.lt _ e).1
      obtain ⟨cur, hc⟩ := hHR.out.heap.block
      have h2 := (Array.getElem?_eq_some_iff.1 hc).1
      omega
  have hfewh := hiddenI hfew
  clear hown hit hown' hrow hHR hB3 hi hds hdd hd0h hw3 hfew
  go_wp2_with fail
  go_loopw [8, 10] (fun l i y => ∃ k : Nat, k ≤ ds.length ∧ i = .int .i64 k ∧ Hid (P1 w1.heap.size b g cap L (.slice xa ds.length xc) ds w y k l)) (fun _ i _ => ds.length - (intOf i).toNat)
  case atStart => exact ⟨0, Nat.zero_le _, rfl, hS1⟩
  case round =>
    clear hS1
    obtain ⟨k, hk, rfl, hS⟩ := hrel
    obtain ⟨g2, cap2, es, rfl, rfl, hpe, hHR, hXR⟩ := hS.out
    by_cases hlt : es.length < ds.length
    · have hlt' : (es.length : Int) < (ds.length : Int) := by omega
      obtain ⟨bx, ox, rfl, x0, x1, x2, x3⟩ := hXR.at hlt
      have hpd : ds.getD es.length pr0 ∈ ds := getD_mem hlt
      obtain ⟨hr1, hf2⟩ := hXR.rows _ hpd
      have htk := take_snocP hlt
      generalize hT : ds.getD es.length pr0 = T at *
      obtain ⟨t, tv⟩ := T
      simp only at x0 x1 x2 x3 hr1 hf2 htk
      have hrp := hHR.rpushing t tv hr1 hf2 (by omega)
      simp only [itV] at hrp
      have hXRh := hiddenI hXR
      have hpeh := hiddenI hpe
      replace hT := hiddenI hT
      replace htk := hiddenI htk
      clear hS hHR hXR hr1 hpd hpe
      go_wp2_with fail
      refine hrp.mono ?_
      rintro e y3 ⟨g3, cap3, rfl, ⟨es', hes', hpe', hH3⟩, hB3⟩
      have hfin : Hid (P1 w1.heap.size b g cap L (.slice (some ⟨bx, ox, none⟩) ds.length xc) ds w y3 (es.length + 1) (.slice (some ⟨g3, 0, none⟩) (es.length + 1) cap3)) := by
        refine ⟨g3, cap3, es', rfl, hes', ?_, hH3, hXRh.out.step hB3⟩
        rw [htk.out]
        exact hpe'.trans ((hpeh.out.cons t).trans (List.perm_append_comm (l₁ := [t])))
      clear hrp hpe' hH3 hB3 hXRh hes' x0 x1 x2 x3 hpeh htk
      go_wp2
      go_roundw
      case rel => exact ⟨es.length + 1, by omega, by go_num, hfin⟩
      case measure => simp [intOf]; omega
    · have hlt' : ¬ (es.length : Int) < (ds.length : Int) := by omega
      have hel : es.length = ds.length := by omega
      have hpe2 : (ds.map (·.1)).Perm (es.map (·.1)) := by
        rw [hel, List.take_length] at hpe
        exact hpe.symm
      have hHRh := hiddenI (hHR.again hpe2)
      have hi2 := hits2 wr (hHR.below)
      clear hS hHR hXR hlt hpe hpe2 hits2
      replace hel := hiddenI hel
      go_wp2_with fail
      refine hi2.mono ?_
      rintro e w5 ⟨qv, rfl, xq, hownq, hitq, hBq⟩
      obtain ⟨dq, -, hdqn, hownq', hfewq, hrowq, qa, qc, rfl⟩ := made_ds hownq hitq
      have hQ : Hid (P2 w1.heap.size b (.slice qa dq.length qc) dq w w5 0 (.slice (some ⟨g2, 0, none⟩) es.length cap2)) := by
        refine ⟨g, cap, L, g2, 0, cap2, es, rfl, by have := hel.out; omega, hHRh.out.step hBq, owns_base hownq' (Nat.zero_le _), hrowq, fun e => ?_⟩
        have h1 := (hownq'.lt _ e).1
        obtain ⟨cur, hc⟩ := hHRh.out.heap.block
        have h2 := (Array.getElem?_eq_some_iff.1 hc).1
        omega
      have hfewqh := hiddenI hfewq
      clear hownq hitq hownq' hrowq hHRh hBq hi2 hfewq hel hfewh
      go_wp2_with fail
      go_loopw [8, 12] (fun l i y => ∃ k : Nat, k ≤ bs.length ∧ k ≤ 40 ∧ i = .int .i64 k ∧ Hid (P2 w1.heap.size b (.slice qa dq.length qc) dq w y k l)) (fun _ i _ => bs.length - (intOf i).toNat)
      case atStart => exact ⟨0, Nat.zero_le _, Nat.zero_le _, rfl, hQ⟩
      case round =>
        clear hQ
        obtain ⟨k, hkb, hk40, rfl, hS⟩ := hrel
        obtain ⟨g, cap, L, g2, og, cap2, es, rfl, hen, hHR, hXR⟩ := hS.out
        have hHRh := hiddenI hHR
        have hXRh := hiddenI hXR
        clear hS
        by_cases hgo : k < bs.length ∧ k < 40
        · obtain ⟨hk1, hk2⟩ := hgo
          have hk1' : (k : Int) < (bs.length : Int) := by omega
          have hk2' : (k : Int) < 40 := by omega
          obtain ⟨pb, po, rfl, hpc⟩ := hbs.out k hk1
          have hpc := (hHR.below.cell (p := ⟨pb, po + k, none⟩) (World.block_lt_of_cell? _ _ hpc)).trans hpc
          generalize bs.getD k false = β at hpc
          by_cases hpush : β = false ∧ k < dq.length
          · obtain ⟨rfl, hkd⟩ := hpush
            have hkd' : ¬ (k : Int) ≥ (dq.length : Int) := by omega
            obtain ⟨bx, ox, rfl, x0, x1, x2, x3⟩ := hXR.at hkd
            have hkd2 : (k : Int) < (dq.length : Int) := by omega
            have hpd : dq.getD k pr0 ∈ dq := getD_mem hkd
            have hf1 := hfewqh.out _ hpd
            obtain ⟨hr1, hf2⟩ := hXR.rows _ hpd
            generalize hTT : dq.getD k pr0 = T at *
            obtain ⟨t, tv⟩ := T
            simp only at x0 x1 x2 x3 hf1 hf2 hr1
            have hitem := itemO_c t tv wr (holds_of_owns hr1) (by omega)
            rw [hf1] at hitem
            simp only [itV] at hitem
            replace hTT := hiddenI hTT
            replace hf1 := hiddenI hf1
            replace hr1 := hiddenI hr1
            replace hpd := hiddenI hpd
            clear hHR hXR
            go_wp2_with fail
            refine hitem.mono ?_
            rintro e y1 ⟨nv, rfl, hnv, hB1⟩
            have hH1 := hHRh.out.step hB1
            have hX1 := hXRh.out.step hB1
            have hpush := hH1.pushing t nv (sl_of_owns hnv) hf2 (by rw [List.length_map]; omega)
            have hbox1 := hiddenI hH1.heap.box
            have hblk1 := hiddenI hH1.heap.block
            replace hX1 := hiddenI hX1
            clear hitem hnv hB1 hHRh hXRh hH1 x0 x1 x2 x3
            simp only [itV] at hpush
            go_wp2_with fail
            refine hpush.mono ?_
            rintro e y2 ⟨rfl, ⟨g', cap', L', hH2, hg'⟩, hS2⟩
            obtain ⟨cur, hcur⟩ := hblk1.out
            have hX2 := hX1.out.turned hS2 hbox1.out hcur hg'
            obtain ⟨bx', ox', hbx, x0, x1, x2, x3⟩ := hX2.at hkd
            rw [hTT.out] at x0 x1 x2 x3
            simp only [Option.some.injEq, Addr.mk.injEq, and_true] at hbx
            obtain ⟨rfl, rfl⟩ := hbx
            have hr2 := (hX2.rows _ hpd.out).1
            have hrp := hH2.rpushing t tv hr2 hf2 (by omega)
            simp only [itV] at hrp
            have hX2h := hiddenI hX2
            clear hpush hH2 hS2 hg' hX2 hcur hX1 hbox1 hblk1 hr2
            go_wp2_with fail
            refine hrp.mono ?_
            rintro e y3 ⟨g3, cap3, rfl, ⟨es', hes', hpe, hH3⟩, hB3⟩
            rw [← hes']
            have hT := hiddenI (hH3.again hpe.symm)
            have hTX := hiddenI (hX2h.out.step hB3)
            clear hrp hpe hH3 hB3 hX2h x0 x1 x2 x3 hTT hf1 hr1 hpd
            replace hes' := hiddenI hes'
            have hpk := hT.out.peekAny
            have hesb : es'.length ≤ 12 + (k + 1) := by have := hes'.out; omega
            have hesn : Hid (es'.length ≤ 1000) := by show _ ≤ _; omega
            replace hesb := hiddenI hesb
            go_wp2_with fail
            refine hpk.mono ?_
            rintro e y7 ⟨⟨ac, al, ap, ar⟩, va, vn, vc, ok7, rfl, hso7, hB7⟩
            have hT7 := hiddenI (hT.out.step hB7)
            have hTX7 := hiddenI (hTX.out.step hB7)
            simp only [itV]
            obtain ⟨y8, hy8⟩ : ∃ y8, Hid (y8 = y7.alloc (.cells #[.int .i64 ac, .slice va vn vc, .int .i64 ap, .int .i64 ar] 24)) := ⟨_, hiddenI rfl⟩
            have hB8 : Below y7.heap.size y7 y8 := by rw [hy8.out]; exact (Below.refl _ _).alloc (Nat.le_refl _) _
            have hX8 : y8.heap[y7.heap.size]? = some (.cells #[.int .i64 ac, .slice va vn vc, .int .i64 ap, .int .i64 ar] 24) := by rw [hy8.out]; exact heap_alloc_new _ _
            obtain ⟨⟨p0, p1, p2, p3⟩, -⟩ := box4 hX8
            have hso8 := hso7 y8 hB8
            simp only [itV] at hso8
            have hT8 := hiddenI (hT7.out.step hB8)
            have hTX8 := hiddenI (hTX7.out.step hB8)
            clear hpk hso7 hB7 hB8 hX8 hT7 hTX7 hT hTX
            go_wp2_with fail
            rw [← hy8.out]
            go_wp2_with fail
            refine hso8.mono ?_
            rintro e y9 ⟨rfl, hB9⟩
            have hT9 := hiddenI (hT8.out.step hB9)
            have hTX9 := hiddenI (hTX8.out.step hB9)
            have hln := hT9.out.lening
            rw [List.length_map] at hln
            clear hso8 hB9 hT8 hTX8 hy8 p0 p1 p2 p3
            go_wp2_with fail
            refine hln.mono ?_
            rintro e y10 ⟨rfl, hyy⟩
            subst hyy
            have hls := hT9.out.listing hT9.out.sort (by rw [List.length_map]; exact hesn.out)
            clear hln
            go_wp2_with fail
            refine hls.mono ?_
            rintro e y11 ⟨⟨lv, rfl, hlvv⟩, hB11⟩
            have hT11 := hiddenI (hT9.out.step hB11)
            have hTX11 := hiddenI (hTX9.out.step hB11)
            have hsm := hT11.out.sameL hlvv hesn.out
            clear hls hB11 hT9 hTX9 hlvv
            go_wp2_with fail
            refine hsm.mono ?_
            rintro e y12 ⟨rfl, hB12⟩
            have hT12 := hT11.out.step hB12
            have hTX12 := hTX11.out.step hB12
            have hfin : Hid (P2 w1.heap.size b (.slice (some ⟨bx, ox, none⟩) dq.length qc) dq w y12 (k + 1) (.slice (some ⟨g3, 0, none⟩) es'.length cap3)) := ⟨g', cap', L', g3, 0, cap3, es', rfl, hesb.out, hT12, hTX12⟩
            clear hsm hB12 hT11 hTX11 hT12 hTX12
            go_wp2
            go_roundw
            case rel => exact ⟨k + 1, by omega, by omega, by go_num, hfin⟩
            case measure => simp [intOf]; omega
          · have hdec : β = true ∨ (β = false ∧ ¬ k < dq.length) := by
              cases β with
              | true => exact .inl rfl
              | false => exact .inr ⟨rfl, fun h => hpush ⟨rfl, h⟩⟩
            have hpop := hHR.popAny (by omega)
            clear hpush hHR hXR
            rcases hdec with rfl | ⟨rfl, hkd⟩
            · skip
              go_wp2_with fail
              refine hpop.mono ?_
              rintro e y1 ⟨⟨ac0, al0, ap0, ar0⟩, va0, vn0, vc0, ok, rfl, hso, hpp, hS1⟩
              have hX1 := hiddenI (by
                obtain ⟨cur, hc⟩ := hHRh.out.heap.block
                exact hXRh.out.turned hS1 hHRh.out.heap.box hc (.inl rfl) : XR (.slice qa dq.length qc) dq g y1)
              simp only [itV]
              obtain ⟨y2, hy2⟩ : ∃ y2, Hid (y2 = y1.alloc (.cells #[.int .i64 ac0, .slice va0 vn0 vc0, .int .i64 ap0, .int .i64 ar0] 24)) := ⟨_, hiddenI rfl⟩
              have hB2 : Below y1.heap.size y1 y2 := by rw [hy2.out]; exact (Below.refl _ _).alloc (Nat.le_refl _) _
              have hX2 : y2.heap[y1.heap.size]? = some (.cells #[.int .i64 ac0, .slice va0 vn0 vc0, .int .i64 ap0, .int .i64 ar0] 24) := by rw [hy2.out]; exact heap_alloc_new _ _
              obtain ⟨⟨p0, p1, p2, p3⟩, -⟩ := box4 hX2
              have hso2 := hso y2 hB2
              simp only [itV] at hso2
              have hB2h := hiddenI hB2
              replace hpp := hiddenI hpp
              clear hpop hso hB2 hX2 hS1 hHRh hXRh hpc
              go_wp2_with fail
              rw [← hy2.out]
              go_wp2_with fail
              refine hso2.mono ?_
              rintro e y3 ⟨rfl, hB3⟩
              have hTX := hiddenI ((hX1.out.step hB2h.out).step hB3)
              clear hso2 hX1 p0 p1 p2 p3
              rcases hpp.out with ⟨rfl, rfl, L', hH⟩ | ⟨rfl, p, es', rfl, L', hH⟩
              · have hT : Hid (HR w1.heap.size b g cap L' g2 og cap2 [] (([] : List Pr).map (·.1)) w y3) := (hH.step hB2h.out).step hB3
                clear hpp hH hB2h hB3 hy2
                have hpk := hT.out.peekAny
                have hesb : ([] : List Pr).length ≤ 12 + (k + 1) := by simp
                have hesn : Hid (([] : List Pr).length ≤ 1000) := by show _ ≤ _; omega
                replace hesb := hiddenI hesb
                go_wp2_with fail
                refine hpk.mono ?_
                rintro e y7 ⟨⟨ac, al, ap, ar⟩, va, vn, vc, ok7, rfl, hso7, hB7⟩
                have hT7 := hiddenI (hT.out.step hB7)
                have hTX7 := hiddenI (hTX.out.step hB7)
                simp only [itV]
                obtain ⟨y8, hy8⟩ : ∃ y8, Hid (y8 = y7.alloc (.cells #[.int .i64 ac, .slice va vn vc, .int .i64 ap, .int .i64 ar] 24)) := ⟨_, hiddenI rfl⟩
                have hB8 : Below y7.heap.size y7 y8 := by rw [hy8.out]; exact (Below.refl _ _).alloc (Nat.le_refl _) _
                have hX8 : y8.heap[y7.heap.size]? = some (.cells #[.int .i64 ac, .slice va vn vc, .int .i64 ap, .int .i64 ar] 24) := by rw [hy8.out]; exact heap_alloc_new _ _
                obtain ⟨⟨p0, p1, p2, p3⟩, -⟩ := box4 hX8
                have hso8 := hso7 y8 hB8
                simp only [itV] at hso8
                have hT8 := hiddenI (hT7.out.step hB8)
                have hTX8 := hiddenI (hTX7.out.step hB8)
                clear hpk hso7 hB7 hB8 hX8 hT7 hTX7 hT hTX
                go_wp2_with fail
                rw [← hy8.out]
                go_wp2_with fail
                refine hso8.mono ?_
                rintro e y9 ⟨rfl, hB9⟩
                have hT9 := hiddenI (hT8.out.step hB9)
                have hTX9 := hiddenI (hTX8.out.step hB9)
                have hln := hT9.out.lening
                rw [List.length_map] at hln
                clear hso8 hB9 hT8 hTX8 hy8 p0 p1 p2 p3
                go_wp2_with fail
                refine hln.mono ?_
                rintro e y10 ⟨rfl, hyy⟩
                subst hyy
                have hls := hT9.out.listing hT9.out.sort (by rw [List.length_map]; exact hesn.out)
                clear hln
                go_wp2_with fail
                refine hls.mono ?_
                rintro e y11 ⟨⟨lv, rfl, hlvv⟩, hB11⟩
                have hT11 := hiddenI (hT9.out.step hB11)
                have hTX11 := hiddenI (hTX9.out.step hB11)
                have hsm := hT11.out.sameL hlvv hesn.out
                clear hls hB11 hT9 hTX9 hlvv
                go_wp2_with fail
                refine hsm.mono ?_
                rintro e y12 ⟨rfl, hB12⟩
                have hT12 := hT11.out.step hB12
                have hTX12 := hTX11.out.step hB12
                have hfin : Hid (P2 w1.heap.size b (.slice qa dq.length qc) dq w y12 (k + 1) (.slice (some ⟨g2, og, none⟩) ([] : List Pr).length cap2)) := ⟨g, cap, L', g2, og, cap2, ([] : List Pr), rfl, hesb.out, hT12, hTX12⟩
                clear hsm hB12 hT11 hTX11 hT12 hTX12
                go_wp2
                go_roundw
                case rel => exact ⟨k + 1, by omega, by omega, by go_num, hfin⟩
                case measure => simp [intOf]; omega
              · have hH3 := (hH.step hB2h.out).step hB3
                have hroom := hH3.ref.room
                simp only [List.length_cons] at hroom hen
                have hrm : (1 : Int) ≤ (cap2 : Int) := by omega
                have hrm2 : (1 : Int) ≤ ((p :: es').length : Int) := by simp; omega
                have hrm3 : (((p :: es').length : Nat) : Int) ≤ (cap2 : Int) := by simp; omega
                by_cases hc1 : cap2 = 1
                · subst hc1
                  obtain rfl : es' = [] := List.eq_nil_of_length_eq_zero (by omega)
                  have hT : Hid (HR w1.heap.size b g cap L' g2 og 0 [] (([] : List Pr).map (·.1)) w y3) := hH3.tail og (.inl ⟨rfl, rfl⟩)
                  clear hpp hH hB2h hB3 hy2 hH3 hroom hrm hrm2 hrm3
                  have hpk := hT.out.peekAny
                  have hesb : ([] : List Pr).length ≤ 12 + (k + 1) := by simp
                  have hesn : Hid (([] : List Pr).length ≤ 1000) := by show _ ≤ _; omega
                  replace hesb := hiddenI hesb
                  go_wp2_with fail
                  refine hpk.mono ?_
                  rintro e y7 ⟨⟨ac, al, ap, ar⟩, va, vn, vc, ok7, rfl, hso7, hB7⟩
                  have hT7 := hiddenI (hT.out.step hB7)
                  have hTX7 := hiddenI (hTX.out.step hB7)
                  simp only [itV]
                  obtain ⟨y8, hy8⟩ : ∃ y8, Hid (y8 = y7.alloc (.cells #[.int .i64 ac, .slice va vn vc, .int .i64 ap, .int .i64 ar] 24)) := ⟨_, hiddenI rfl⟩
                  have hB8 : Below y7.heap.size y7 y8 := by rw [hy8.out]; exact (Below.refl _ _).alloc (Nat.le_refl _) _
                  have hX8 : y8.heap[y7.heap.size]? = some (.cells #[.int .i64 ac, .slice va vn vc, .int .i64 ap, .int .i64 ar] 24) := by rw [hy8.out]; exact heap_alloc_new _ _
                  obtain ⟨⟨p0, p1, p2, p3⟩, -⟩ := box4 hX8
                  have hso8 := hso7 y8 hB8
                  simp only [itV] at hso8
                  have hT8 := hiddenI (hT7.out.step hB8)
                  have hTX8 := hiddenI (hTX7.out.step hB8)
                  clear hpk hso7 hB7 hB8 hX8 hT7 hTX7 hT hTX
                  go_wp2_with fail
                  rw [← hy8.out]
                  go_wp2_with fail
                  refine hso8.mono ?_
                  rintro e y9 ⟨rfl, hB9⟩
                  have hT9 := hiddenI (hT8.out.step hB9)
                  have hTX9 := hiddenI (hTX8.out.step hB9)
                  have hln := hT9.out.lening
                  rw [List.length_map] at hln
                  clear hso8 hB9 hT8 hTX8 hy8 p0 p1 p2 p3
                  go_wp2_with fail
                  refine hln.mono ?_
                  rintro e y10 ⟨rfl, hyy⟩
                  subst hyy
                  have hls := hT9.out.listing hT9.out.sort (by rw [List.length_map]; exact hesn.out)
                  clear hln
                  go_wp2_with fail
                  refine hls.mono ?_
                  rintro e y11 ⟨⟨lv, rfl, hlvv⟩, hB11⟩
                  have hT11 := hiddenI (hT9.out.step hB11)
                  have hTX11 := hiddenI (hTX9.out.step hB11)
                  have hsm := hT11.out.sameL hlvv hesn.out
                  clear hls hB11 hT9 hTX9 hlvv
                  go_wp2_with fail
                  refine hsm.mono ?_
                  rintro e y12 ⟨rfl, hB12⟩
                  have hT12 := hT11.out.step hB12
                  have hTX12 := hTX11.out.step hB12
                  have hfin : Hid (P2 w1.heap.size b (.slice qa dq.length qc) dq w y12 (k + 1) (.slice (some ⟨g2, og, none⟩) ([] : List Pr).length 0)) := ⟨g, cap, L', g2, og, 0, ([] : List Pr), rfl, hesb.out, hT12, hTX12⟩
                  clear hsm hB12 hT11 hTX11 hT12 hTX12
                  go_wp2
                  go_roundw
                  case rel => exact ⟨k + 1, by omega, by omega, by go_num, hfin⟩
                  case measure => simp [intOf]; omega
                · have hT := hiddenI (hH3.tail (og + 4) (.inr rfl))
                  clear hpp hH hB2h hB3 hy2 hH3
                  have hl1 : (p :: es').length - 1 = es'.length := by simp
                  have hpk := hT.out.peekAny
                  have hesb : es'.length ≤ 12 + (k + 1) := by omega
                  have hesn : Hid (es'.length ≤ 1000) := by show _ ≤ _; omega
                  replace hesb := hiddenI hesb
                  go_wp2_with fail
                  refine hpk.mono ?_
                  rintro e y7 ⟨⟨ac, al, ap, ar⟩, va, vn, vc, ok7, rfl, hso7, hB7⟩
                  have hT7 := hiddenI (hT.out.step hB7)
                  have hTX7 := hiddenI (hTX.out.step hB7)
                  simp only [itV]
                  obtain ⟨y8, hy8⟩ : ∃ y8, Hid (y8 = y7.alloc (.cells #[.int .i64 ac, .slice va vn vc, .int .i64 ap, .int .i64 ar] 24)) := ⟨_, hiddenI rfl⟩
                  have hB8 : Below y7.heap.size y7 y8 := by rw [hy8.out]; exact (Below.refl _ _).alloc (Nat.le_refl _) _
                  have hX8 : y8.heap[y7.heap.size]? = some (.cells #[.int .i64 ac, .slice va vn vc, .int .i64 ap, .int .i64 ar] 24) := by rw [hy8.out]; exact heap_alloc_new _ _
                  obtain ⟨⟨p0, p1, p2, p3⟩, -⟩ := box4 hX8
                  have hso8 := hso7 y8 hB8
                  simp only [itV] at hso8
                  have hT8 := hiddenI (hT7.out.step hB8)
                  have hTX8 := hiddenI (hTX7.out.step hB8)
                  clear hpk hso7 hB7 hB8 hX8 hT7 hTX7 hT hTX
                  go_wp2_with fail
                  rw [← hy8.out]
                  go_wp2_with fail
                  refine hso8.mono ?_
                  rintro e y9 ⟨rfl, hB9⟩
                  have hT9 := hiddenI (hT8.out.step hB9)
                  have hTX9 := hiddenI (hTX8.out.step hB9)
                  have hln := hT9.out.lening
                  rw [List.length_map] at hln
                  clear hso8 hB9 hT8 hTX8 hy8 p0 p1 p2 p3
                  go_wp2_with fail
                  refine hln.mono ?_
                  rintro e y10 ⟨rfl, hyy⟩
                  subst hyy
                  have hls := hT9.out.listing hT9.out.sort (by rw [List.length_map]; exact hesn.out)
                  clear hln
                  go_wp2_with fail
                  refine hls.mono ?_
                  rintro e y11 ⟨⟨lv, rfl, hlvv⟩, hB11⟩
                  have hT11 := hiddenI (hT9.out.step hB11)
                  have hTX11 := hiddenI (hTX9.out.step hB11)
                  have hsm := hT11.out.sameL hlvv hesn.out
                  clear hls hB11 hT9 hTX9 hlvv
                  go_wp2_with fail
                  refine hsm.mono ?_
                  rintro e y12 ⟨rfl, hB12⟩
                  have hT12 := hT11.out.step hB12
                  have hTX12 := hTX11.out.step hB12
                  have hfin : Hid (P2 w1.heap.size b (.slice qa dq.length qc) dq w y12 (k + 1) (.slice (some ⟨g2, (og + 4), none⟩) es'.length (cap2 - 1))) := ⟨g, cap, L', g2, (og + 4), (cap2 - 1), es', rfl, hesb.out, hT12, hTX12⟩
                  clear hsm hB12 hT11 hTX11 hT12 hTX12
                  go_wp2
                  go_roundw
                  case rel => exact ⟨k + 1, by omega, by omega, by go_num, hfin⟩
                  case measure => simp [intOf]; omega
            · have hkd' : (k : Int) ≥ (dq.length : Int) := by omega
              go_wp2_with fail
              refine hpop.mono ?_
              rintro e y1 ⟨⟨ac0, al0, ap0, ar0⟩, va0, vn0, vc0, ok, rfl, hso, hpp, hS1⟩
              have hX1 := hiddenI (by
                obtain ⟨cur, hc⟩ := hHRh.out.heap.block
                exact hXRh.out.turned hS1 hHRh.out.heap.box hc (.inl rfl) : XR (.slice qa dq.length qc) dq g y1)
              simp only [itV]
              obtain ⟨y2, hy2⟩ : ∃ y2, Hid (y2 = y1.alloc (.cells #[.int .i64 ac0, .slice va0 vn0 vc0, .int .i64 ap0, .int .i64 ar0] 24)) := ⟨_, hiddenI rfl⟩
              have hB2 : Below y1.heap.size y1 y2 := by rw [hy2.out]; exact (Below.refl _ _).alloc (Nat.le_refl _) _
              have hX2 : y2.heap[y1.heap.size]? = some (.cells #[.int .i64 ac0, .slice va0 vn0 vc0, .int .i64 ap0, .int .i64 ar0] 24) := by rw [hy2.out]; exact heap_alloc_new _ _
              obtain ⟨⟨p0, p1, p2, p3⟩, -⟩ := box4 hX2
              have hso2 := hso y2 hB2
              simp only [itV] at hso2
              have hB2h := hiddenI hB2
              replace hpp := hiddenI hpp
              clear hpop hso hB2 hX2 hS1 hHRh hXRh hpc
              go_wp2_with fail
              rw [← hy2.out]
              go_wp2_with fail
              refine hso2.mono ?_
              rintro e y3 ⟨rfl, hB3⟩
              have hTX := hiddenI ((hX1.out.step hB2h.out).step hB3)
              clear hso2 hX1 p0 p1 p2 p3
              rcases hpp.out with ⟨rfl, rfl, L', hH⟩ | ⟨rfl, p, es', rfl, L', hH⟩
              · have hT : Hid (HR w1.heap.size b g cap L' g2 og cap2 [] (([] : List Pr).map (·.1)) w y3) := (hH.step hB2h.out).step hB3
                clear hpp hH hB2h hB3 hy2
                have hpk := hT.out.peekAny
                have hesb : ([] : List Pr).length ≤ 12 + (k + 1) := by simp
                have hesn : Hid (([] : List Pr).length ≤ 1000) := by show _ ≤ _; omega
                replace hesb := hiddenI hesb
                go_wp2_with fail
                refine hpk.mono ?_
                rintro e y7 ⟨⟨ac, al, ap, ar⟩, va, vn, vc, ok7, rfl, hso7, hB7⟩
                have hT7 := hiddenI (hT.out.step hB7)
                have hTX7 := hiddenI (hTX.out.step hB7)
                simp only [itV]
                obtain ⟨y8, hy8⟩ : ∃ y8, Hid (y8 = y7.alloc (.cells #[.int .i64 ac, .slice va vn vc, .int .i64 ap, .int .i64 ar] 24)) := ⟨_, hiddenI rfl⟩
                have hB8 : Below y7.heap.size y7 y8 := by rw [hy8.out]; exact (Below.refl _ _).alloc (Nat.le_refl _) _
                have hX8 : y8.heap[y7.heap.size]? = some (.cells #[.int .i64 ac, .slice va vn vc, .int .i64 ap, .int .i64 ar] 24) := by rw [hy8.out]; exact heap_alloc_new _ _
                obtain ⟨⟨p0, p1, p2, p3⟩, -⟩ := box4 hX8
                have hso8 := hso7 y8 hB8
                simp only [itV] at hso8
                have hT8 := hiddenI (hT7.out.step hB8)
                have hTX8 := hiddenI (hTX7.out.step hB8)
                clear hpk hso7 hB7 hB8 hX8 hT7 hTX7 hT hTX
                go_wp2_with fail
                rw [← hy8.out]
                go_wp2_with fail
                refine hso8.mono ?_
                rintro e y9 ⟨rfl, hB9⟩
                have hT9 := hiddenI (hT8.out.step hB9)
                have hTX9 := hiddenI (hTX8.out.step hB9)
                have hln := hT9.out.lening
                rw [List.length_map] at hln
                clear hso8 hB9 hT8 hTX8 hy8 p0 p1 p2 p3
                go_wp2_with fail
                refine hln.mono ?_
                rintro e y10 ⟨rfl, hyy⟩
                subst hyy
                have hls := hT9.out.listing hT9.out.sort (by rw [List.length_map]; exact hesn.out)
                clear hln
                go_wp2_with fail
                refine hls.mono ?_
                rintro e y11 ⟨⟨lv, rfl, hlvv⟩, hB11⟩
                have hT11 := hiddenI (hT9.out.step hB11)
                have hTX11 := hiddenI (hTX9.out.step hB11)
                have hsm := hT11.out.sameL hlvv hesn.out
                clear hls hB11 hT9 hTX9 hlvv
                go_wp2_with fail
                refine hsm.mono ?_
                rintro e y12 ⟨rfl, hB12⟩
                have hT12 := hT11.out.step hB12
                have hTX12 := hTX11.out.step hB12
                have hfin : Hid (P2 w1.heap.size b (.slice qa dq.length qc) dq w y12 (k + 1) (.slice (some ⟨g2, og, none⟩) ([] : List Pr).length cap2)) := ⟨g, cap, L', g2, og, cap2, ([] : List Pr), rfl, hesb.out, hT12, hTX12⟩
                clear hsm hB12 hT11 hTX11 hT12 hTX12
                go_wp2
                go_roundw
                case rel => exact ⟨k + 1, by omega, by omega, by go_num, hfin⟩
                case measure => simp [intOf]; omega
              · have hH3 := (hH.step hB2h.out).step hB3
                have hroom := hH3.ref.room
                simp only [List.length_cons] at hroom hen
                have hrm : (1 : Int) ≤ (cap2 : Int) := by omega
                have hrm2 : (1 : Int) ≤ ((p :: es').length : Int) := by simp; omega
                have hrm3 : (((p :: es').length : Nat) : Int) ≤ (cap2 : Int) := by simp; omega
                by_cases hc1 : cap2 = 1
                · subst hc1
                  obtain rfl : es' = [] := List.eq_nil_of_length_eq_zero (by omega)
                  have hT : Hid (HR w1.heap.size b g cap L' g2 og 0 [] (([] : List Pr).map (·.1)) w y3) := hH3.tail og (.inl ⟨rfl, rfl⟩)
                  clear hpp hH hB2h hB3 hy2 hH3 hroom hrm hrm2 hrm3
                  have hpk := hT.out.peekAny
                  have hesb : ([] : List Pr).length ≤ 12 + (k + 1) := by simp
                  have hesn : Hid (([] : List Pr).length ≤ 1000) := by show _ ≤ _; omega
                  replace hesb := hiddenI hesb
                  go_wp2_with fail
                  refine hpk.mono ?_
                  rintro e y7 ⟨⟨ac, al, ap, ar⟩, va, vn, vc, ok7, rfl, hso7, hB7⟩
                  have hT7 := hiddenI (hT.out.step hB7)
                  have hTX7 := hiddenI (hTX.out.step hB7)
                  simp only [itV]
                  obtain ⟨y8, hy8⟩ : ∃ y8, Hid (y8 = y7.alloc (.cells #[.int .i64 ac, .slice va vn vc, .int .i64 ap, .int .i64 ar] 24)) := ⟨_, hiddenI rfl⟩
                  have hB8 : Below y7.heap.size y7 y8 := by rw [hy8.out]; exact (Below.refl _ _).alloc (Nat.le_refl _) _
                  have hX8 : y8.heap[y7.heap.size]? = some (.cells #[.int .i64 ac, .slice va vn vc, .int .i64 ap, .int .i64 ar] 24) := by rw [hy8.out]; exact heap_alloc_new _ _
                  obtain ⟨⟨p0, p1, p2, p3⟩, -⟩ := box4 hX8
                  have hso8 := hso7 y8 hB8
                  simp only [itV] at hso8
                  have hT8 := hiddenI (hT7.out.step hB8)
                  have hTX8 := hiddenI (hTX7.out.step hB8)
                  clear hpk hso7 hB7 hB8 hX8 hT7 hTX7 hT hTX
                  go_wp2_with fail
                  rw [← hy8.out]
                  go_wp2_with fail
                  refine hso8.mono ?_
                  rintro e y9 ⟨rfl, hB9⟩
                  have hT9 := hiddenI (hT8.out.step hB9)
                  have hTX9 := hiddenI (hTX8.out.step hB9)
                  have hln := hT9.out.lening
                  rw [List.length_map] at hln
                  clear hso8 hB9 hT8 hTX8 hy8 p0 p1 p2 p3
                  go_wp2_with fail
                  refine hln.mono ?_
                  rintro e y10 ⟨rfl, hyy⟩
                  subst hyy
                  have hls := hT9.out.listing hT9.out.sort (by rw [List.length_map]; exact hesn.out)
                  clear hln
                  go_wp2_with fail
                  refine hls.mono ?_
                  rintro e y11 ⟨⟨lv, rfl, hlvv⟩, hB11⟩
                  have hT11 := hiddenI (hT9.out.step hB11)
                  have hTX11 := hiddenI (hTX9.out.step hB11)
                  have hsm := hT11.out.sameL hlvv hesn.out
                  clear hls hB11 hT9 hTX9 hlvv
                  go_wp2_with fail
                  refine hsm.mono ?_
                  rintro e y12 ⟨rfl, hB12⟩
                  have hT12 := hT11.out.step hB12
                  have hTX12 := hTX11.out.step hB12
                  have hfin : Hid (P2 w1.heap.size b (.slice qa dq.length qc) dq w y12 (k + 1) (.slice (some ⟨g2, og, none⟩) ([] : List Pr).length 0)) := ⟨g, cap, L', g2, og, 0, ([] : List Pr), rfl, hesb.out, hT12, hTX12⟩
                  clear hsm hB12 hT11 hTX11 hT12 hTX12
                  go_wp2
                  go_roundw
                  case rel => exact ⟨k + 1, by omega, by omega, by go_num, hfin⟩
                  case measure => simp [intOf]; omega
                · have hT := hiddenI (hH3.tail (og + 4) (.inr rfl))
                  clear hpp hH hB2h hB3 hy2 hH3
                  have hl1 : (p :: es').length - 1 = es'.length := by simp
                  have hpk := hT.out.peekAny
                  have hesb : es'.length ≤ 12 + (k + 1) := by omega
                  have hesn : Hid (es'.length ≤ 1000) := by show _ ≤ _; omega
                  replace hesb := hiddenI hesb
                  go_wp2_with fail
                  refine hpk.mono ?_
                  rintro e y7 ⟨⟨ac, al, ap, ar⟩, va, vn, vc, ok7, rfl, hso7, hB7⟩
                  have hT7 := hiddenI (hT.out.step hB7)
                  have hTX7 := hiddenI (hTX.out.step hB7)
                  simp only [itV]
                  obtain ⟨y8, hy8⟩ : ∃ y8, Hid (y8 = y7.alloc (.cells #[.int .i64 ac, .slice va vn vc, .int .i64 ap, .int .i64 ar] 24)) := ⟨_, hiddenI rfl⟩
                  have hB8 : Below y7.heap.size y7 y8 := by rw [hy8.out]; exact (Below.refl _ _).alloc (Nat.le_refl _) _
                  have hX8 : y8.heap[y7.heap.size]? = some (.cells #[.int .i64 ac, .slice va vn vc, .int .i64 ap, .int .i64 ar] 24) := by rw [hy8.out]; exact heap_alloc_new _ _
                  obtain ⟨⟨p0, p1, p2, p3⟩, -⟩ := box4 hX8
                  have hso8 := hso7 y8 hB8
                  simp only [itV] at hso8
                  have hT8 := hiddenI (hT7.out.step hB8)
                  have hTX8 := hiddenI (hTX7.out.step hB8)
                  clear hpk hso7 hB7 hB8 hX8 hT7 hTX7 hT hTX
                  go_wp2_with fail
                  rw [← hy8.out]
                  go_wp2_with fail
                  refine hso8.mono ?_
                  rintro e y9 ⟨rfl, hB9⟩
                  have hT9 := hiddenI (hT8.out.step hB9)
                  have hTX9 := hiddenI (hTX8.out.step hB9)
                  have hln := hT9.out.lening
                  rw [List.length_map] at hln
                  clear hso8 hB9 hT8 hTX8 hy8 p0 p1 p2 p3
                  go_wp2_with fail
                  refine hln.mono ?_
                  rintro e y10 ⟨rfl, hyy⟩
                  subst hyy
                  have hls := hT9.out.listing hT9.out.sort (by rw [List.length_map]; exact hesn.out)
                  clear hln
                  go_wp2_with fail
                  refine hls.mono ?_
                  rintro e y11 ⟨⟨lv, rfl, hlvv⟩, hB11⟩
                  have hT11 := hiddenI (hT9.out.step hB11)
                  have hTX11 := hiddenI (hTX9.out.step hB11)
                  have hsm := hT11.out.sameL hlvv hesn.out
                  clear hls hB11 hT9 hTX9 hlvv
                  go_wp2_with fail
                  refine hsm.mono ?_
                  rintro e y12 ⟨rfl, hB12⟩
                  have hT12 := hT11.out.step hB12
                  have hTX12 := hTX11.out.step hB12
                  have hfin : Hid (P2 w1.heap.size b (.slice qa dq.length qc) dq w y12 (k + 1) (.slice (some ⟨g2, (og + 4), none⟩) es'.length (cap2 - 1))) := ⟨g, cap, L', g2, (og + 4), (cap2 - 1), es', rfl, hesb.out, hT12, hTX12⟩
                  clear hsm hB12 hT11 hTX11 hT12 hTX12
                  go_wp2
                  go_roundw
                  case rel => exact ⟨k + 1, by omega, by omega, by go_num, hfin⟩
                  case measure => simp [intOf]; omega
        · clear hHR hXR
          have hCw := hiddenI (GoX.Calm.of_below hHRh.out.below)
          clear hHRh hXRh
          by_cases hk1 : k < bs.length
          · have hk1' : (k : Int) < (bs.length : Int) := by omega
            have hk2' : ¬ (k : Int) < 40 := by omega
            clear hgo
            go_wp2_with fail
            refine (hlv _).mono ?_
            rintro e y4 ⟨rfl, hC⟩
            have hCf := hiddenI (hCw.out.trans hC)
            clear hC hCw
            go_wp2
            go_ret
            exact ⟨rfl, hCf.out⟩
          · have hk1' : ¬ (k : Int) < (bs.length : Int) := by omega
            clear hgo
            go_wp2_with fail
            refine (hlv _).mono ?_
            rintro e y4 ⟨rfl, hC⟩
            have hCf := hiddenI (hCw.out.trans hC)
            clear hC hCw
            go_wp2
            go_ret
            exact ⟨rfl, hCf.out⟩
end Go.Proofs.Ytapdkdfgjjdbkaa
