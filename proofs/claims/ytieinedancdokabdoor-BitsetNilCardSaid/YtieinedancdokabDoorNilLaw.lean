/-
  NO SET IS ONE WITHOUT NUMBERS: the law's own walk.
-/
import Derived.Test.YtieinedancdokabDoorPC
import Derived.Test.YtieinedancdokabDoorPD
import Derived.Test.YtieinedancdokabDoorPG
import Derived.Test.YtieinedancdokabDoorPH
import Derived.Test.YtieinedancdokabDoorXCodeG
namespace Go.Proofs.YtieinedancdokabDoor
open Go.ChangeShapes Go.WideShapes Go.ChangeAt Go.RowKit

/-- What lies in memory through all of the law. -/
structure Env (w0 w : World) (t : Nat) (h : Option Nat) (us : List Nat) (vx : Value) (X : List Nat) : Prop where
  below : Below w0.heap.size w0 w
  t : SetAt w t h us
  x : Holds w vx (ints X)
  tab : TabAt 0 Lib.deBruijn64tab w
  zero : 0 < w.heap.size
theorem Env.next {w0 w w' : World} {t : Nat} {h : Option Nat} {us : List Nat} {vx : Value} {X : List Nat} (E : Env w0 w t h us vx X) (hB : Below w.heap.size w w') : Env w0 w' t h us vx X :=
  ⟨E.below.trans (hB.mono E.below.size), E.t.below hB, E.x.below hB, tab_below E.tab hB E.zero, Nat.lt_of_lt_of_le E.zero hB.size⟩
theorem joinB {f : Nat} {args : Array Value} {w : World} {p : Nat → Bool} (h : Calls Tryd.prog f args w fun e w' => ∃ b, e = .returned (.pointer (some ⟨b, 0, none⟩)) ∧ ∃ g us, Joined w w' b g us p) :
    Calls Tryd.prog f args w fun e w' => ∃ b, e = .returned (.pointer (some ⟨b, 0, none⟩)) ∧ ∃ g us, Fit us ∧ (∀ k, has us k = p k) ∧ SetAt w' b g us ∧ Below w.heap.size w w' :=
  h.mono fun _ _ ⟨b, he, g, us, hJ⟩ => ⟨b, he, g, us, hJ.fit, hJ.is, hJ.lies, hJ.below⟩
theorem askT {f : Nat} {args : Array Value} {w : World} {Q : Prop} (t : Bool) (r : Bool → Value) (h : Calls Tryd.prog f args w fun e w' => ∃ t, e = .returned (r t) ∧ (t = true ↔ Q) ∧ w' = w) (ht : t = true ↔ Q) :
    Calls Tryd.prog f args w fun e w' => e = .returned (r t) ∧ Below w.heap.size w w' :=
  h.mono fun _ _ ⟨u, he, hu, hw⟩ => ⟨by rw [he, show u = t from Bool.eq_iff_iff.2 (hu.trans ht.symm)], by rw [hw]; exact Below.refl _ _⟩
theorem fit_none : Fit [] := ⟨by simp, by simp⟩
theorem has_none (k : Nat) : has [] k = false := has_end (by simp)
theorem none_all (p : Nat → Bool) (h : ∀ k, p k = false) : (L p).length = 0 := (L_empty p).2 fun k _ => h k
theorem len_none {b : Nat} {g : Option Nat} {ws : List Nat} {w : World} (p : Nat → Bool) (hf : Fit ws) (hp : ∀ k, has ws k = p k) (h0 : ∀ k, p k = false) (h : SetAt w b g ws) : Calls Tryd.prog 11 #[.pointer (some ⟨b, 0, none⟩)] w fun e w' =>
    e = .returned (.int .i64 0) ∧ Below w.heap.size w w' := by
  have := lenE_c b g ws p w hf hp h
  rwa [none_all p h0] at this
theorem same_none (v : Value) (ws X : List Nat) (p : Nat → Bool) (w : World) (hf : Fit ws) (hp : ∀ k, has ws k = p k) (hX : X = L p) (h : SetV w v ws) : Calls Tryd.prog 20 #[.pointer none, v] w fun e w' =>
    e = .returned (.bool ((X.length : Int) == 0)) ∧ Below w.heap.size w w' := by
  refine askT _ .bool (same_s (.pointer none) v [] ws w fit_none hf (.inl ⟨rfl, rfl⟩) h) ?_
  have := L_empty p
  rw [beq_iff_eq, hX]
  constructor
  · intro h k
    rw [has_none, hp]
    rcases Nat.lt_or_ge k 65536 with hk | hk
    · exact (this.1 (by omega) k hk).symm
    · rw [← hp]; exact (has_high hf hk).symm
  · intro h
    have := this.2 fun k _ => by rw [← hp, ← h k]; exact has_none k
    omega
set_option maxHeartbeats 6400000 in
theorem law_c (v : Value) (zs : List Int) (n : Int) (w : World) (hv : Holds w v (zs.map (Value.int .i64))) (hz : zs.length ≤ 9223372036854775807)
    (hzw : ∀ z ∈ zs, z ≤ 9223372036854775807) (hn : n ≤ 9223372036854775807)
    (hT : TabAt 0 Lib.deBruijn64tab w)
    (hlv : ∀ x, Below w.heap.size w x → Calls Tryd.prog 22 #[] x fun e w' => e = .returned (.bool true) ∧ GoX.Calm x w') :
    Calls Tryd.prog 3 #[v, .int .i64 n] w fun e w' => e = .returned (.bool true) ∧ GoX.Calm w w' := by
  have hfz := fun w h => fewH_c v zs 20 w h hz (by omega)
  have hlz : Hid ((zs.take 20).length ≤ 1000) := by show _ ≤ _; rw [List.length_take]; omega
  have hzw2 : Hid (∀ z ∈ zs.take 20, z ≤ 9223372036854775807) := fun z h => hzw z (List.mem_of_mem_take h)
  generalize zs.take 20 = aa at *
  have h0 : Hid (0 < w.heap.size) := World.block_lt_of_cell? _ _ (hT 0 (by decide))
  replace hT := hidden hT
  replace hlv := hidden hlv
  replace hfz := hidden hfz
  replace hn := hidden hn
  have hv := hidden hv
  clear hz hzw
  go_enter Tryd.func3, Tryd.ntmps3
  go_wp2_with fail
  refine (hfz.out _ hv.out).mono ?_
  rintro e w1 ⟨va, rfl, hva, hB⟩
  have hBw : Hid (Below w.heap.size w w1) := hB
  replace hva := hidden hva
  clear hB
  go_wp2_with fail
  refine (new_c va aa w1 hva.out hlz.out hzw2.out).mono ?_
  rintro e w2 ⟨t, rfl, h, us, hM⟩
  have ht : Hid (SetAt w2 t h us) := hM.lies
  have hft : Hid (Fit us) := hM.fit
  have hit : Hid (∀ k, has us k = inL aa k) := hM.is
  replace hBw : Hid (Below w.heap.size w w2) := hBw.out.trans (hM.below.mono hBw.out.size)
  clear hva hM hzw2
  go_wp2_with fail
  refine (hfz.out _ (hv.out.below (hBw.out.mono (Nat.le_refl _)))).mono ?_
  rintro e w3 ⟨vc, rfl, hvc, hB⟩
  replace hBw : Hid (Below w.heap.size w w3) := hBw.out.trans (hB.mono hBw.out.size)
  replace ht : Hid (SetAt w3 t h us) := ht.out.below hB
  replace hvc := hidden hvc
  clear hB hfz hv
  go_wp2_with fail
  refine (of_c vc aa w3 hvc.out hlz.out).mono ?_
  rintro e w4 ⟨vx, rfl, hx, hB⟩
  have E : Hid (Env w w4 t h us vx (L (inL aa))) :=
    ⟨hBw.out.trans (hB.mono hBw.out.size), ht.out.below hB, hx.holds, tab_below hT.out (hBw.out.trans (hB.mono hBw.out.size)) h0.out, Nat.lt_of_lt_of_le h0.out (Nat.le_trans hBw.out.size hB.size)⟩
  have hhx := hx.holds
  obtain ⟨ax, cx, rfl, _⟩ := hhx
  rw [ints_len] at E ⊢
  clear hB ht hx hBw hlz hT h0 hvc
  generalize inL aa = p at *
  clear aa
  obtain ⟨X, hX⟩ : ∃ X, Hid (X = L p) := ⟨_, (rfl : _ = _)⟩
  rw [← hX.out] at E ⊢
  have hXl : Hid (X.length ≤ 65536) := by show _ ≤ _; rw [hX.out]; exact L_len p
  go_wp2_with fail
  refine (stays (nextN_c n w4 hn.out)).mono ?_
  rintro e w5 ⟨rfl, hB⟩
  replace E := hidden (E.out.next hB)
  clear hB 
  go_wp2_with fail
  refine (stays (addN_c n w5)).mono ?_
  rintro e w6 ⟨rfl, hB⟩
  replace E := hidden (E.out.next hB)
  clear hB 
  go_wp2_with fail
  refine (stays (cutN_c n w6 hn.out)).mono ?_
  rintro e w7 ⟨rfl, hB⟩
  replace E := hidden (E.out.next hB)
  clear hB 
  go_wp2_with fail
  refine (stays (hasN_c n w7 hn.out)).mono ?_
  rintro e w8 ⟨rfl, hB⟩
  replace E := hidden (E.out.next hB)
  clear hB 
  go_wp2_with fail
  refine (stays (lenN_c w8)).mono ?_
  rintro e w9 ⟨rfl, hB⟩
  replace E := hidden (E.out.next hB)
  clear hB 
  go_wp2_with fail
  refine (listN_c w9).mono ?_
  rintro e w10 ⟨a1, c1, rfl, hB⟩
  replace E := hidden (E.out.next hB)
  clear hB 
  go_wp2_with fail
  refine (copyN_c w10).mono ?_
  rintro e w11 ⟨o, rfl, go, hso, hB⟩
  have l_so := hidden hso
  clear hso
  replace E := hidden (E.out.next hB)
  clear hB 
  go_wp2_with fail
  refine (len_none (fun _ => false) fit_none has_none (fun _ => rfl) l_so.out).mono ?_
  rintro e w12 ⟨rfl, hB⟩
  replace l_so := hidden (l_so.out.below hB)
  replace E := hidden (E.out.next hB)
  clear hB l_so
  go_wp2_with fail
  refine (joinB (or_c (.pointer none) (.pointer (some ⟨t, 0, none⟩)) [] us w12 fit_none hft.out (.inl ⟨rfl, rfl⟩) (.inr ⟨t, h, rfl, E.out.t⟩))).mono ?_
  rintro e w13 ⟨o, rfl, go, zo, hfo, hio, hso, hB⟩
  replace hfo := hidden hfo
  replace hio := hidden hio
  have l_so := hidden hso
  clear hso
  replace E := hidden (E.out.next hB)
  clear hB 
  go_wp2_with fail
  refine (listL_c o go zo p w13 hfo.out (fun k => (hio.out k).trans (by rw [has_none, hit.out]; rfl)) l_so.out E.out.tab).mono ?_
  rintro e w14 ⟨v1, rfl, l_v1, hB⟩
  replace l_v1 := hidden l_v1
  replace l_so := hidden (l_so.out.below hB)
  replace E := hidden (E.out.next hB)
  clear hB l_so hfo hio
  go_wp2_with fail
  refine (sameT_c v1 _ X w14 (by rw [hX.out]; exact l_v1.out) E.out.x hXl.out).mono ?_
  rintro e w15 ⟨rfl, hB⟩
  replace l_v1 := hidden (l_v1.out.below hB)
  replace E := hidden (E.out.next hB)
  clear hB l_v1
  go_wp2_with fail
  refine (joinB (and_c (.pointer (some ⟨t, 0, none⟩)) (.pointer none) us [] w15 hft.out fit_none (.inr ⟨t, h, rfl, E.out.t⟩) (.inl ⟨rfl, rfl⟩))).mono ?_
  rintro e w16 ⟨o, rfl, go, zo, hfo, hio, hso, hB⟩
  replace hfo := hidden hfo
  replace hio := hidden hio
  have l_so := hidden hso
  clear hso
  replace E := hidden (E.out.next hB)
  clear hB 
  go_wp2_with fail
  refine (len_none _ hfo.out hio.out (fun k => by rw [has_none]; simp) l_so.out).mono ?_
  rintro e w17 ⟨rfl, hB⟩
  replace l_so := hidden (l_so.out.below hB)
  replace E := hidden (E.out.next hB)
  clear hB l_so hfo hio
  go_wp2_with fail
  refine (joinB (minus_c (.pointer (some ⟨t, 0, none⟩)) (.pointer none) us [] w17 hft.out fit_none (.inr ⟨t, h, rfl, E.out.t⟩) (.inl ⟨rfl, rfl⟩))).mono ?_
  rintro e w18 ⟨o, rfl, go, zo, hfo, hio, hso, hB⟩
  replace hfo := hidden hfo
  replace hio := hidden hio
  have l_so := hidden hso
  clear hso
  replace E := hidden (E.out.next hB)
  clear hB 
  go_wp2_with fail
  refine (listL_c o go zo p w18 hfo.out (fun k => (hio.out k).trans (by rw [has_none, hit.out]; simp)) l_so.out E.out.tab).mono ?_
  rintro e w19 ⟨v1, rfl, l_v1, hB⟩
  replace l_v1 := hidden l_v1
  replace l_so := hidden (l_so.out.below hB)
  replace E := hidden (E.out.next hB)
  clear hB l_so hfo hio
  go_wp2_with fail
  refine (sameT_c v1 _ X w19 (by rw [hX.out]; exact l_v1.out) E.out.x hXl.out).mono ?_
  rintro e w20 ⟨rfl, hB⟩
  replace l_v1 := hidden (l_v1.out.below hB)
  replace E := hidden (E.out.next hB)
  clear hB l_v1
  go_wp2_with fail
  refine (askT true .bool (within_s (.pointer none) (.pointer (some ⟨t, 0, none⟩)) [] us w20 fit_none hft.out (.inl ⟨rfl, rfl⟩) (.inr ⟨t, h, rfl, E.out.t⟩)) ⟨fun _ k => by rw [has_none]; rfl, fun _ => rfl⟩).mono ?_
  rintro e w21 ⟨rfl, hB⟩
  replace E := hidden (E.out.next hB)
  clear hB 
  go_wp2_with fail
  refine (askT true (fun t => .bool (!t)) (meets_s (.pointer none) (.pointer (some ⟨t, 0, none⟩)) [] us w21 fit_none hft.out (.inl ⟨rfl, rfl⟩) (.inr ⟨t, h, rfl, E.out.t⟩)) ⟨fun _ k => by rw [has_none]; rfl, fun _ => rfl⟩).mono ?_
  rintro e w22 ⟨rfl, hB⟩
  replace E := hidden (E.out.next hB)
  clear hB 
  go_wp2_with fail
  refine (same_none (.pointer (some ⟨t, 0, none⟩)) us X p w22 hft.out hit.out hX.out (.inr ⟨t, h, rfl, E.out.t⟩)).mono ?_
  rintro e w23 ⟨rfl, hB⟩
  replace E := hidden (E.out.next hB)
  clear hB 
  go_wp2_with fail
  refine (wordsN_c w23).mono ?_
  rintro e w24 ⟨a2, rfl, hB⟩
  replace E := hidden (E.out.next hB)
  clear hB 
  go_wp2_with fail
  refine (hlv.out w24 E.out.below).mono ?_
  rintro e wz ⟨rfl, hC⟩
  have hfin : Hid (GoX.Calm w wz) := (GoX.Calm.of_below E.out.below).trans hC
  clear hC E
  go_wp2
  go_ret
  exact ⟨by simp, hfin.out⟩
end Go.Proofs.YtieinedancdokabDoor
