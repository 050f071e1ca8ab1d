/-
  A COPY IS NOBODY ELSE'S: the law's own walk.
-/
import Derived.Test.YtfjhiaafabmpbagDoorSetCopy
import Derived.Test.YtfjhiaafabmpbagDoorSetCut
import Derived.Test.YtfjhiaafabmpbagDoorRefPut
import Derived.Test.YtfjhiaafabmpbagDoorRefCut
import Derived.Test.YtfjhiaafabmpbagDoorFew
import Derived.Test.YtfjhiaafabmpbagDoorSame
import Derived.Test.YtfjhiaafabmpbagDoorXCodeG
namespace Go.Proofs.YtfjhiaafabmpbagDoor
open Go.ChangeShapes Go.WideShapes Go.ChangeAt Go.RowKit

theorem ints_map (xs : List Nat) : ints xs = (xs.map Int.ofNat).map (Value.int .i64) := by simp [ints]
theorem save_chain {b : Nat} {g g1 : Option Nat} {a c d : World} (h1 : Save (b :: g.toList) a c) (h2 : Save (b :: g1.toList) c d) (hf : ∀ x, g1 = some x → g = some x ∨ a.heap.size ≤ x) : Save (b :: g.toList) a d :=
  ⟨h2.os.trans h1.os, h2.tape.trans h1.tape, h2.output.trans h1.output, Nat.le_trans h1.size h2.size, fun k hk hS => (h2.block k (Nat.lt_of_lt_of_le hk h1.size) (fun hm => by
    rcases List.mem_cons.1 hm with rfl | hm
    · exact hS (by simp)
    · cases g1 with
      | none => simp at hm
      | some x =>
        simp at hm
        subst hm
        rcases hf k rfl with e | e
        · exact hS (by simp [e])
        · omega)).trans (h1.block k hk hS)⟩
theorem same_nat (va vb : Value) (xs : List Nat) (w : World) (ha : Holds w va (ints xs)) (hb : Holds w vb (ints xs)) (hl : xs.length ≤ 65536) :
    Calls Tryd.prog 11 #[va, vb] w fun e w' => e = .returned (.bool true) ∧ Below w.heap.size w w' := by
  rw [ints_map] at ha hb
  have := same_c va vb _ _ w ha hb (by simp; omega) (by simp; omega)
  simpa using this
set_option maxHeartbeats 3200000 in
theorem law_c (v : Value) (zs : List Int) (n : Int) (w : World) (hv : Holds w v (zs.map (Value.int .i64))) (hz : zs.length ≤ 9223372036854775807) (hzw : ∀ z ∈ zs, z ≤ 9223372036854775807) (hn : n ≤ 9223372036854775807)
    (hT : TabAt 0 Lib.deBruijn64tab w)
    (hlv : ∀ x, Below w.heap.size w x → Calls Tryd.prog 15 #[] x fun e w' => e = .returned (.bool true) ∧ GoX.Calm x w') :
    Calls Tryd.prog 3 #[v, .int .i64 n] w fun e w' => e = .returned (.bool true) ∧ GoX.Calm w w' := by
  have hfew := fun w h => few_c v zs 30 w h hz (by omega)
  have hlen : (zs.take 30).length ≤ 1000 := by rw [List.length_take]; omega
  have hzw2 : ∀ z ∈ zs.take 30, z ≤ 9223372036854775807 := fun z h => hzw z (List.mem_of_mem_take h)
  generalize zs.take 30 = ys at *
  have h0 : 0 < w.heap.size := World.block_lt_of_cell? _ _ (hT 0 (by decide))
  replace hT := hidden hT
  replace hlv := hidden hlv
  replace h0 := hidden h0
  replace hn := hidden hn
  replace hlen := hidden hlen
  replace hzw2 := hidden hzw2
  have hv := hidden hv
  clear hz hzw
  go_enter Tryd.func3, Tryd.ntmps3
  go_wp2_with fail
  refine (hfew _ hv.out).mono ?_
  rintro e w1 ⟨va, rfl, hown1, hB1⟩
  have hva := hidden (holds_of_owns hown1)
  replace hB1 := hidden hB1
  clear hown1
  go_wp2_with fail
  refine (new_c va ys w1 hva.out hlen.out hzw2.out).mono ?_
  rintro e w2 ⟨b, rfl, g, ws, hM⟩
  have hwle : Hid (w.heap.size ≤ w1.heap.size) := hB1.out.size
  have hB2 : Hid (Below w.heap.size w w2) := hB1.out.trans (hM.below.mono hB1.out.size)
  replace hM := hidden hM
  clear hB1 hva
  go_wp2_with fail
  refine (copy_c b g ws w2 hM.out.fit hM.out.lies).mono ?_
  rintro e w3 ⟨b', rfl, g', hS3, hB3, hb', hg'⟩
  have hS3 := hidden hS3
  have hBw3 : Hid (Below w.heap.size w w3) := hB2.out.trans (hB3.mono hB2.out.size)
  replace hB3 := hidden hB3
  replace hb' := hidden hb'
  replace hg' := hidden hg'
  go_wp2_with fail
  refine (hfew _ (hv.out.below (hBw3.out.mono (Nat.le_refl _)))).mono ?_
  rintro e w4 ⟨vb, rfl, hown4, hB4⟩
  have hvb := hidden (holds_of_owns hown4)
  replace hB4 := hidden hB4
  clear hown4 hfew
  go_wp2_with fail
  refine (of_c vb ys w4 hvb.out hlen.out).mono ?_
  rintro e w5 ⟨vx, rfl, hx5, hB5⟩
  replace hx5 := hidden hx5
  have hB35 : Hid (Below w3.heap.size w3 w5) := hB4.out.trans (hB5.mono hB4.out.size)
  have hle45 : Hid (w4.heap.size ≤ w5.heap.size) := hB5.size
  have hsz24 : Hid (w2.heap.size ≤ w4.heap.size) := Nat.le_trans hB3.out.size hB4.out.size
  have hBw5 : Hid (Below w.heap.size w w5) := hBw3.out.trans (hB35.out.mono hBw3.out.size)
  have hL5 : Hid (SetAt w5 b g ws) := (hM.out.lies.below hB3.out).below hB35.out
  have hS5 : Hid (SetAt w5 b' g' ws) := hS3.out.below hB35.out
  clear hB5 hvb hB4 hv hS3
  have hadd := add_c b g ws n w5 hM.out.fit hL5.out hn.out
  go_wp2_with fail
  refine hadd.mono ?_
  rintro e w6 ⟨rfl, g1, ws1, hA⟩
  clear hadd
  replace hA := hidden hA
  have hcut := setcut_c b g1 ws1 5 w6 hA.out.fit hA.out.lies (by omega)
  go_wp2_with fail
  refine hcut.mono ?_
  rintro e w7 ⟨rfl, ws2, hC⟩
  clear hcut
  replace hC := hidden hC
  have hs57 : Hid (Save (b :: g.toList) w5 w7) := save_chain hA.out.save hC.out.save hA.out.fresh
  have hbs : Hid (∀ k ∈ b :: g.toList, k < w2.heap.size ∧ w.heap.size ≤ k) := fun k hk => by
    have h1 := hM.out.fresh
    have hw := hB2.out
    rcases List.mem_cons.1 hk with rfl | hk
    · exact ⟨hM.out.lies.lt, by have := hwle.out; omega⟩
    · cases g with
      | none => simp at hk
      | some x =>
        simp at hk
        subst hk
        exact ⟨hM.out.lies.glt, by have := h1.2 k rfl; have := hwle.out; omega⟩
  have hS7 : Hid (SetAt w7 b' g' ws) := hS5.out.save hs57.out (fun hm => by have := (hbs.out _ hm).1; have := hb'.out; omega) (fun x hx hm => by have := (hbs.out _ hm).1; have := hg'.out x hx; omega)
  have hx7 : Hid (SlS w4.heap.size w7 vx (L (inL ys))) := hx5.out.save hs57.out (fun k hk => Nat.lt_of_lt_of_le (hbs.out k hk).1 hsz24.out)
  have hBw7 : Hid (Below w.heap.size w w7) := hBw5.out.trans (hs57.out.below hBw5.out.size fun k hk => (hbs.out k hk).2)
  have hL7 : Hid (SetAt w7 b g1 ws2) := hC.out.lies
  have hf2 : Hid (Fit ws2) := hC.out.fit
  have hf1 : Hid (Fit ws) := hM.out.fit
  have his1 : Hid (∀ k, has ws k = inL ys k) := hM.out.is
  have his2 : Hid (∀ k, has ws2 k = ((inL ys k || (good n && k == n.toNat)) && !(good 5 && k == (5 : Int).toNat))) := fun k => by
    rw [hC.out.is, hA.out.is, hM.out.is]; rfl
  have hle47 : Hid (w4.heap.size ≤ w7.heap.size) := Nat.le_trans hle45.out hs57.out.size
  clear hs57 hbs hS5 hx5 hBw5 hA hC hM hL5 hB35 hB3 hb' hg' hsz24 hBw3 hB2
  go_wp2_with fail
  refine (words_c b' g' ws w7 hf1.out hS7.out).mono ?_
  rintro e w8 ⟨m, x, rfl, hTr, hx, hxc, hB8⟩
  have hmle := hTr.le
  have hms := hf1.out.short
  clear hTr
  replace hx := hidden hx
  go_wp2_with fail
  go_loopw [9] (fun i wr => ∃ j : Nat, j ≤ m ∧ i = .int .i64 (j : Int) ∧ (∃ cs : Array Value, Hid (cs.size = m ∧ wr.heap[x]? = some (.cells cs 31))) ∧ Hid (Below w7.heap.size w7 wr)) (fun i _ => m - (intOf i).toNat)
  case atStart => exact ⟨0, Nat.zero_le _, rfl, ⟨_, by rw [wv_size, List.length_take]; omega, hxc⟩, hB8⟩
  case round =>
    obtain ⟨j, hj, rfl, ⟨cs, hcs⟩, hBl⟩ := hrel
    by_cases hlt : j < m
    · have hj1 : (j : Int) < (m : Int) := by omega
      have c0 : wr.cell? ⟨x, j, none⟩ = some (cs[j]'(by rw [hcs.out.1]; exact hlt)) := by
        simp [World.cell?, hcs.out.2, hcs.out.1, hlt]
      have z0 : wr.frozen? ⟨x, j, none⟩ = false := by simp [World.frozen?, hcs.out.2]
      have hnext : Hid ((cs.setIfInBounds j (.int .u64 0)).size = m ∧ (wr.setCell ⟨x, j, none⟩ (.int .u64 0)).heap[x]? = some (.cells (cs.setIfInBounds j (.int .u64 0)) 31)) :=
        ⟨by rw [Array.size_setIfInBounds]; exact hcs.out.1, heap_set hcs.out.2 _ _⟩
      have hbn : Hid (Below w7.heap.size w7 (wr.setCell ⟨x, j, none⟩ (.int .u64 0))) := hBl.out.setCell hx.out _
      generalize cs[j]'(by rw [hcs.out.1]; exact hlt) = y at *
      clear hcs hBl hxc hB8
      go_wp2
      go_roundw
      case rel => exact ⟨j + 1, by omega, by go_num, ⟨_, hnext⟩, hbn⟩
      case measure => simp [intOf]; omega
    · have hj1 : ¬ (j : Int) < (m : Int) := by omega
      clear hcs hxc hB8 hj
      have hBw9 : Hid (Below w.heap.size w wr) := hBw7.out.trans (hBl.out.mono hBw7.out.size)
      have hT9 := hidden (tab_below hT.out hBw9.out h0.out)
      have hSc := hidden (hS7.out.below hBl.out)
      have hSo := hidden (hL7.out.below hBl.out)
      have hx9 := hidden (hx7.out.below hBl.out)
      have hle49 : Hid (w4.heap.size ≤ wr.heap.size) := Nat.le_trans hle47.out hBl.out.size
      clear hS7 hL7 hx7 hBl hBw7
      obtain ⟨w9, hw9⟩ : ∃ w9, w9 = wr := ⟨_, rfl⟩
      rw [← hw9] at hBw9 hT9 hSc hSo hx9 hle49 ⊢
      clear hw9
      have hadd := fun B u w (hb : B ≤ w.heap.size) (h : SlS B w u (L (inL ys))) => radd_c u (inL ys) n B w hb h
      have hcut := fun B u w (hb : B ≤ w.heap.size) (h : SlS B w u (L fun k => inL ys k || (good n && k == n.toNat))) => rcut_c u (fun k => inL ys k || (good n && k == n.toNat)) 5 B w hb h
      have e1 : told ws ws.length = L (inL ys) := (told_L ws hf1.out).trans (L_congr his1.out)
      have e2 : told ws2 ws2.length = L fun k => (inL ys k || (good n && k == n.toNat)) && !(good 5 && k == (5 : Int).toNat) := (told_L ws2 hf2.out).trans (L_congr his2.out)
      have l1 := L_len (inL ys)
      have l2 := L_len fun k => (inL ys k || (good n && k == n.toNat)) && !(good 5 && k == (5 : Int).toNat)
      have hlist1 := list_c b' g' ws w9 hf1.out hSc.out hT9.out
      have hlist2 := fun w h hT => list_c b g1 ws2 w hf2.out h hT
      rw [e1] at hlist1
      rw [e2] at hlist2
      generalize (L fun k => (inL ys k || (good n && k == n.toNat)) && !(good 5 && k == (5 : Int).toNat)) = Y at *
      generalize (L fun k => inL ys k || (good n && k == n.toNat)) = Z at *
      generalize L (inL ys) = X at *
      replace l1 := hidden l1
      replace l2 := hidden l2
      replace hadd := hidden hadd
      replace hcut := hidden hcut
      replace hlist2 := hidden hlist2
      clear e1 e2 his1 his2 hf1 hf2
      go_wp2_with fail
      refine hlist1.mono ?_
      rintro e w10 ⟨v1, rfl, hv1, hB10⟩
      have hx10 := hidden (hx9.out.below hB10)
      have hle10 : Hid (w4.heap.size ≤ w10.heap.size) := Nat.le_trans hle49.out hB10.size
      replace hv1 := hidden hv1
      have hBw10 : Hid (Below w.heap.size w w10) := hBw9.out.trans (hB10.mono hBw9.out.size)
      have hT10 := hidden (tab_below hT.out hBw10.out h0.out)
      have hSo10 := hidden (hSo.out.below hB10)
      clear hlist1 hB10 hSc hSo hx9 hle49 hT9 hBw9
      go_wp2_with fail
      refine (same_nat v1 vx X w10 hv1.out hx10.out.holds l1.out).mono ?_
      rintro e w11 ⟨rfl, hB11⟩
      have hx11 := hidden (hx10.out.below hB11)
      have hle11 : Hid (w4.heap.size ≤ w11.heap.size) := Nat.le_trans hle10.out hB11.size
      have hBw11 : Hid (Below w.heap.size w w11) := hBw10.out.trans (hB11.mono hBw10.out.size)
      have hT11 := hidden (tab_below hT.out hBw11.out h0.out)
      have hSo11 := hidden (hSo10.out.below hB11)
      clear hB11 hSo10 hx10 hle10 hT10 hBw10 hv1
      go_wp2_with fail
      refine (hlist2.out w11 hSo11.out hT11.out).mono ?_
      rintro e w12 ⟨v2, rfl, hv2, hB12⟩
      have hx12 := hidden (hx11.out.below hB12)
      have hle12 : Hid (w4.heap.size ≤ w12.heap.size) := Nat.le_trans hle11.out hB12.size
      have hBw12 : Hid (Below w.heap.size w w12) := hBw11.out.trans (hB12.mono hBw11.out.size)
      replace hv2 := hidden hv2
      clear hB12 hSo11 hx11 hle11 hT11 hBw11 hlist2
      go_wp2_with fail
      refine (hadd.out w4.heap.size vx w12 hle12.out hx12.out).mono ?_
      rintro e w13 ⟨v3, rfl, hx13, hB13⟩
      replace hx13 := hidden hx13
      have hle13 : Hid (w4.heap.size ≤ w13.heap.size) := Nat.le_trans hle12.out hB13.size
      have hBw13 : Hid (Below w.heap.size w w13) := hBw12.out.trans (hB13.mono hBw12.out.size)
      have hv3 := hidden (hv2.out.below hB13)
      clear hB13 hx12 hle12 hBw12 hv2 hadd
      go_wp2_with fail
      refine (hcut.out w4.heap.size v3 w13 hle13.out hx13.out).mono ?_
      rintro e w14 ⟨v4, rfl, hx14, hB14⟩
      have hBw14 : Hid (Below w.heap.size w w14) := hBw13.out.trans (hB14.mono hBw13.out.size)
      have hv4 := hidden (hv3.out.below hB14)
      replace hx14 := hidden hx14
      clear hB14 hx13 hle13 hBw13 hv3 hcut
      go_wp2_with fail
      refine (same_nat v2 v4 Y w14 hv4.out hx14.out.holds l2.out).mono ?_
      rintro e w15 ⟨rfl, hB15⟩
      have hBw15 : Hid (Below w.heap.size w w15) := hBw14.out.trans (hB15.mono hBw14.out.size)
      clear hB15 hBw14 hv4 hx14
      go_wp2_with fail
      refine (hlv.out w15 hBw15.out).mono ?_
      rintro e w16 ⟨rfl, hC16⟩
      have hfin : Hid (GoX.Calm w w16) := (GoX.Calm.of_below hBw15.out).trans hC16
      clear hC16
      go_wp2
      go_ret
      exact ⟨rfl, hfin.out⟩
end Go.Proofs.YtfjhiaafabmpbagDoor
