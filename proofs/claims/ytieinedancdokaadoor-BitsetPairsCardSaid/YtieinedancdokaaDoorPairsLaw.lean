/-
  WHAT COMES OF ANY TWO SETS: the law's own walk.
-/
import Derived.Test.YtieinedancdokaaDoorPG
import Derived.Test.YtieinedancdokaaDoorPD
import Derived.Test.YtieinedancdokaaDoorXCodeG
namespace Go.Proofs.YtieinedancdokaaDoor
open Go.ChangeShapes Go.WideShapes Go.ChangeAt Go.RowKit

/-- What lies in memory through all of the law. -/
structure Env (w0 w : World) (s t : Nat) (g h : Option Nat) (ws us : List Nat) (vx vy : Value) (X Y : List Nat) : Prop where
  below : Below w0.heap.size w0 w
  s : SetAt w s g ws
  t : SetAt w t h us
  x : SlS w0.heap.size w vx X
  y : Holds w vy (ints Y)
  tab : TabAt 0 Lib.deBruijn64tab w
  zero : 0 < w.heap.size
theorem Env.next {w0 w w' : World} {s t : Nat} {g h : Option Nat} {ws us : List Nat} {vx vy : Value} {X Y : List Nat} (E : Env w0 w s t g h ws us vx vy X Y) (hB : Below w.heap.size w w') : Env w0 w' s t g h ws us vx vy X Y :=
  ⟨E.below.trans (hB.mono E.below.size), E.s.below hB, E.t.below hB, E.x.below hB, E.y.below hB, tab_below E.tab hB E.zero, Nat.lt_of_lt_of_le E.zero hB.size⟩
theorem slS_mono {B B' : Nat} {w : World} {v : Value} {xs : List Nat} (h : SlS B w v xs) (hB : B' ≤ B) : SlS B' w v xs := by
  obtain ⟨g, og, cap, h1, h0, h2⟩ := h
  exact ⟨g, og, cap, h1, Nat.le_trans hB h0, h2⟩
theorem take_short {ws : List Nat} {m : Nat} (hf : Fit ws) : (ws.take m).length ≤ 1024 := by
  have := hf.short
  rw [List.length_take]; omega
theorem joinB {f : Nat} {args : Array Value} {w : World} {p : Nat → Bool} (h : Calls Tryd.prog f args w fun e w' => ∃ b, e = .returned (.pointer (some ⟨b, 0, none⟩)) ∧ ∃ g us, Joined w w' b g us p) :
    Calls Tryd.prog f args w fun e w' => ∃ b, e = .returned (.pointer (some ⟨b, 0, none⟩)) ∧ ∃ g us, Fit us ∧ (∀ k, has us k = p k) ∧ SetAt w' b g us ∧ Below w.heap.size w w' :=
  h.mono fun _ _ ⟨b, he, g, us, hJ⟩ => ⟨b, he, g, us, hJ.fit, hJ.is, hJ.lies, hJ.below⟩
theorem sl_holds {f B : Nat} {args : Array Value} {w : World} {xs : List Nat} (h : Calls Tryd.prog f args w fun e w' => ∃ v', e = .returned v' ∧ SlS B w' v' xs ∧ Below w.heap.size w w') :
    Calls Tryd.prog f args w fun e w' => ∃ v', e = .returned v' ∧ Holds w' v' (ints xs) ∧ Below w.heap.size w w' :=
  h.mono fun _ _ ⟨v, he, hs, hB⟩ => ⟨v, he, hs.holds, hB⟩
theorem askB {f : Nat} {args : Array Value} {w : World} {Q : Prop} {R : Prop} (t : Bool) (h : Calls Tryd.prog f args w fun e w' => ∃ t, e = .returned (.bool t) ∧ (t = true ↔ Q) ∧ w' = w) (ht : t = true ↔ R) (hR : R ↔ Q) :
    Calls Tryd.prog f args w fun e w' => e = .returned (.bool t) ∧ Below w.heap.size w w' :=
  h.mono fun _ _ ⟨u, he, hu, hw⟩ => ⟨by rw [he, show u = t from Bool.eq_iff_iff.2 (hu.trans (hR.symm.trans ht.symm))], by rw [hw]; exact Below.refl _ _⟩
theorem meetB {f : Nat} {args : Array Value} {w : World} {Q : Prop} {R : Prop} (t : Bool) (h : Calls Tryd.prog f args w fun e w' => ∃ t, e = .returned (.bool (!t)) ∧ (t = true ↔ Q) ∧ w' = w) (ht : t = true ↔ R) (hR : R ↔ Q) :
    Calls Tryd.prog f args w fun e w' => e = .returned (.bool (!t)) ∧ Below w.heap.size w w' :=
  h.mono fun _ _ ⟨u, he, hu, hw⟩ => ⟨by rw [he, show u = t from Bool.eq_iff_iff.2 (hu.trans (hR.symm.trans ht.symm))], by rw [hw]; exact Below.refl _ _⟩
theorem all_has {p q : Nat → Bool} {ws us : List Nat} (hp : ∀ k, 65536 ≤ k → p k = false) (hq : ∀ k, 65536 ≤ k → q k = false) (h1 : ∀ k, has ws k = p k) (h2 : ∀ k, has us k = q k) : (∀ k, k < 65536 → p k = q k) ↔ ∀ k, has ws k = has us k := by
  constructor
  · intro h k
    rw [h1, h2]
    rcases Nat.lt_or_ge k 65536 with hk | hk
    · exact h k hk
    · rw [hp k hk, hq k hk]
  · intro h k _
    rw [← h1, ← h2]; exact h k
theorem all_has2 (f : Bool → Bool → Bool) (hf : ∀ b, f false b = false) {p q : Nat → Bool} {ws us : List Nat} (hp : ∀ k, 65536 ≤ k → p k = false) (h1 : ∀ k, has ws k = p k) (h2 : ∀ k, has us k = q k) : (∀ k, k < 65536 → f (p k) (q k) = false) ↔ ∀ k, f (has ws k) (has us k) = false := by
  constructor
  · intro h k
    rw [h1, h2]
    rcases Nat.lt_or_ge k 65536 with hk | hk
    · exact h k hk
    · rw [hp k hk, hf]
  · intro h k _
    rw [← h1, ← h2]; exact h k
theorem count_is {p r : Nat → Bool} {t : Bool} (h : t = true ↔ ∀ k, k < 65536 → r k = false) (e : ∀ k, p k = r k) : (((L p).length : Int) == 0) = t := by
  rw [Bool.eq_iff_iff, h]
  have := L_empty p
  rw [beq_iff_eq]
  constructor
  · intro h0 k hk
    rw [← e]; exact this.1 (by omega) k hk
  · intro h0
    have := this.2 fun k hk => (e k).trans (h0 k hk)
    omega
theorem count_pos {p r : Nat → Bool} {t : Bool} (h : t = true ↔ ∀ k, k < 65536 → r k = false) (e : ∀ k, p k = r k) : decide ((0 : Int) < ((L p).length : Int)) = !t := by
  have := count_is h e
  cases t with
  | true => rw [beq_iff_eq] at this; simp [this]
  | false =>
    have h1 : ((L p).length : Int) ≠ 0 := by simpa using this
    simp; omega
theorem beyond {ws : List Nat} {p : Nat → Bool} (hf : Fit ws) (hp : ∀ k, has ws k = p k) {k : Nat} (hk : 65536 ≤ k) : p k = false := by rw [← hp]; exact has_high hf hk
set_option maxHeartbeats 6400000 in
theorem law_c (v u : Value) (zs ys : List Int) (w : World) (hv : Holds w v (zs.map (Value.int .i64))) (hu : Holds w u (ys.map (Value.int .i64))) (hz : zs.length ≤ 9223372036854775807) (hy : ys.length ≤ 9223372036854775807)
    (hzw : ∀ z ∈ zs, z ≤ 9223372036854775807) (hyw : ∀ z ∈ ys, z ≤ 9223372036854775807)
    (hT : TabAt 0 Lib.deBruijn64tab w)
    (hlv : ∀ x, Below w.heap.size w x → Calls Tryd.prog 20 #[] x fun e w' => e = .returned (.bool true) ∧ GoX.Calm x w') :
    Calls Tryd.prog 3 #[v, u] w fun e w' => e = .returned (.bool true) ∧ GoX.Calm w w' := by
  have hfz := fun w h => fewH_c v zs 30 w h hz (by omega)
  have hfy := fun w h => fewH_c u ys 30 w h hy (by omega)
  have hlz : Hid ((zs.take 30).length ≤ 1000) := by show _ ≤ _; rw [List.length_take]; omega
  have hly : Hid ((ys.take 30).length ≤ 1000) := by show _ ≤ _; rw [List.length_take]; omega
  have hzw2 : Hid (∀ z ∈ zs.take 30, z ≤ 9223372036854775807) := fun z h => hzw z (List.mem_of_mem_take h)
  have hyw2 : Hid (∀ z ∈ ys.take 30, z ≤ 9223372036854775807) := fun z h => hyw z (List.mem_of_mem_take h)
  generalize zs.take 30 = aa at *
  generalize ys.take 30 = bs at *
  have h0 : Hid (0 < w.heap.size) := World.block_lt_of_cell? _ _ (hT 0 (by decide))
  replace hT := hidden hT
  replace hlv := hidden hlv
  replace hfz := hidden hfz
  replace hfy := hidden hfy
  have hv := hidden hv
  have hu := hidden hu
  clear hz hzw hy hyw
  go_enter Tryd.func3, Tryd.ntmps3
  go_wp2_with fail
  refine (hfz.out _ hv.out).mono ?_
  rintro e w1 ⟨va, rfl, hva, hB⟩
  have hBw : Hid (Below w.heap.size w w1) := hB
  replace hva := hidden hva
  clear hB
  go_wp2_with fail
  refine (new_c va aa w1 hva.out hlz.out hzw2.out).mono ?_
  rintro e w2 ⟨s, rfl, g, ws, hM⟩
  have hs : Hid (SetAt w2 s g ws) := hM.lies
  have hfs : Hid (Fit ws) := hM.fit
  have his : Hid (∀ k, has ws k = inL aa k) := hM.is
  replace hBw : Hid (Below w.heap.size w w2) := hBw.out.trans (hM.below.mono hBw.out.size)
  clear hva hM
  go_wp2_with fail
  refine (hfy.out _ (hu.out.below (hBw.out.mono (Nat.le_refl _)))).mono ?_
  rintro e w3 ⟨vb, rfl, hvb, hB⟩
  replace hBw : Hid (Below w.heap.size w w3) := hBw.out.trans (hB.mono hBw.out.size)
  replace hs : Hid (SetAt w3 s g ws) := hs.out.below hB
  replace hvb := hidden hvb
  clear hB
  go_wp2_with fail
  refine (new_c vb bs w3 hvb.out hly.out hyw2.out).mono ?_
  rintro e w4 ⟨t, rfl, h, us, hM⟩
  have ht : Hid (SetAt w4 t h us) := hM.lies
  have hft : Hid (Fit us) := hM.fit
  have hit : Hid (∀ k, has us k = inL bs k) := hM.is
  replace hs : Hid (SetAt w4 s g ws) := hs.out.below hM.below
  replace hBw : Hid (Below w.heap.size w w4) := hBw.out.trans (hM.below.mono hBw.out.size)
  clear hvb hM hzw2 hyw2
  go_wp2_with fail
  refine (hfz.out _ (hv.out.below (hBw.out.mono (Nat.le_refl _)))).mono ?_
  rintro e w5 ⟨vc, rfl, hvc, hB⟩
  replace hBw : Hid (Below w.heap.size w w5) := hBw.out.trans (hB.mono hBw.out.size)
  replace hs : Hid (SetAt w5 s g ws) := hs.out.below hB
  replace ht : Hid (SetAt w5 t h us) := ht.out.below hB
  replace hvc := hidden hvc
  clear hB
  go_wp2_with fail
  refine (of_c vc aa w5 hvc.out hlz.out).mono ?_
  rintro e w6 ⟨vx, rfl, hx, hB⟩
  replace hs : Hid (SetAt w6 s g ws) := hs.out.below hB
  replace ht : Hid (SetAt w6 t h us) := ht.out.below hB
  replace hx : Hid (SlS w.heap.size w6 vx (L (inL aa))) := slS_mono hx hBw.out.size
  replace hBw : Hid (Below w.heap.size w w6) := hBw.out.trans (hB.mono hBw.out.size)
  clear hB hvc
  go_wp2_with fail
  refine (hfy.out _ (hu.out.below (hBw.out.mono (Nat.le_refl _)))).mono ?_
  rintro e w7 ⟨vd, rfl, hvd, hB⟩
  replace hBw : Hid (Below w.heap.size w w7) := hBw.out.trans (hB.mono hBw.out.size)
  replace hs : Hid (SetAt w7 s g ws) := hs.out.below hB
  replace ht : Hid (SetAt w7 t h us) := ht.out.below hB
  replace hx : Hid (SlS w.heap.size w7 vx (L (inL aa))) := hx.out.below hB
  replace hvd := hidden hvd
  clear hB
  go_wp2_with fail
  refine (of_c vd bs w7 hvd.out hly.out).mono ?_
  rintro e w8 ⟨vy, rfl, hy, hB⟩
  have E : Hid (Env w w8 s t g h ws us vx vy (L (inL aa)) (L (inL bs))) :=
    ⟨hBw.out.trans (hB.mono hBw.out.size), hs.out.below hB, ht.out.below hB, hx.out.below hB, hy.holds, tab_below hT.out (hBw.out.trans (hB.mono hBw.out.size)) h0.out, Nat.lt_of_lt_of_le h0.out (Nat.le_trans hBw.out.size hB.size)⟩
  clear hB hvd hs ht hx hy hBw hv hu hfz hfy hlz hly hT h0
  generalize inL aa = p at *
  generalize inL bs = q at *
  clear aa bs
  obtain ⟨sm, hsm⟩ : ∃ sm : Bool, Hid (sm = true ↔ ∀ k, k < 65536 → p k = q k) := ⟨decide (L p = L q), (by show _ ↔ _; rw [decide_eq_true_eq]; exact L_same p q)⟩
  obtain ⟨wi, hwi⟩ : ∃ wi : Bool, Hid (wi = true ↔ ∀ k, k < 65536 → (p k && !(q k)) = false) := ⟨decide ((L fun k => p k && !(q k)).length = 0), (by show _ ↔ _; rw [decide_eq_true_eq]; exact L_empty _)⟩
  obtain ⟨me, hme⟩ : ∃ me : Bool, Hid (me = true ↔ ∀ k, k < 65536 → (p k && q k) = false) := ⟨decide ((L fun k => p k && q k).length = 0), (by show _ ↔ _; rw [decide_eq_true_eq]; exact L_empty _)⟩
  have hpz : Hid (∀ k, 65536 ≤ k → p k = false) := fun k hk => beyond hfs.out his.out hk
  have hqz : Hid (∀ k, 65536 ≤ k → q k = false) := fun k hk => beyond hft.out hit.out hk
  go_wp2_with fail
  refine (joinB (or_c (.pointer (some ⟨s, 0, none⟩)) (.pointer (some ⟨t, 0, none⟩)) ws us w8 hfs.out hft.out (.inr ⟨s, g, rfl, E.out.s⟩) (.inr ⟨t, h, rfl, E.out.t⟩))).mono ?_
  rintro e w9 ⟨o, rfl, go, zo, hfo, hio, hso, hB⟩
  replace hfo := hidden hfo
  replace hio := hidden hio
  have l_so := hidden hso
  clear hso
  replace E := hidden (E.out.next hB)
  clear hB 
  go_wp2_with fail
  refine (listL_c o go zo (fun k => p k || q k) w9 hfo.out (fun k => (hio.out k).trans (by rw [his.out, hit.out])) l_so.out E.out.tab).mono ?_
  rintro e w10 ⟨v1, rfl, l_v1, hB⟩
  replace l_v1 := hidden l_v1
  replace l_so := hidden (l_so.out.below hB)
  replace E := hidden (E.out.next hB)
  clear hB l_so hfo hio
  go_wp2_with fail
  refine (sl_holds (ror_c vx vy p q w.heap.size w10 E.out.below.size E.out.x E.out.y)).mono ?_
  rintro e w11 ⟨v2, rfl, l_v2, hB⟩
  replace l_v2 := hidden l_v2
  replace l_v1 := hidden (l_v1.out.below hB)
  replace E := hidden (E.out.next hB)
  clear hB 
  go_wp2_with fail
  refine (rsameT_c v1 v2 (fun k => p k || q k) (fun k => p k || q k) (fun k _ => by rfl) w11 l_v1.out l_v2.out).mono ?_
  rintro e w12 ⟨rfl, hB⟩
  replace l_v1 := hidden (l_v1.out.below hB)
  replace l_v2 := hidden (l_v2.out.below hB)
  replace E := hidden (E.out.next hB)
  clear hB l_v1 l_v2
  go_wp2_with fail
  refine (joinB (and_c (.pointer (some ⟨s, 0, none⟩)) (.pointer (some ⟨t, 0, none⟩)) ws us w12 hfs.out hft.out (.inr ⟨s, g, rfl, E.out.s⟩) (.inr ⟨t, h, rfl, E.out.t⟩))).mono ?_
  rintro e w13 ⟨o, rfl, go, zo, hfo, hio, hso, hB⟩
  replace hfo := hidden hfo
  replace hio := hidden hio
  have l_so := hidden hso
  clear hso
  replace E := hidden (E.out.next hB)
  clear hB 
  go_wp2_with fail
  refine (listL_c o go zo (fun k => p k && q k) w13 hfo.out (fun k => (hio.out k).trans (by rw [his.out, hit.out])) l_so.out E.out.tab).mono ?_
  rintro e w14 ⟨v1, rfl, l_v1, hB⟩
  replace l_v1 := hidden l_v1
  replace l_so := hidden (l_so.out.below hB)
  replace E := hidden (E.out.next hB)
  clear hB l_so hfo hio
  go_wp2_with fail
  refine (pick_c vx vy p q true w14 E.out.x.holds E.out.y).mono ?_
  rintro e w15 ⟨v2, rfl, l_v2, hB⟩
  replace l_v2 := hidden l_v2
  replace l_v1 := hidden (l_v1.out.below hB)
  replace E := hidden (E.out.next hB)
  clear hB 
  go_wp2_with fail
  refine (rsameT_c v1 v2 (fun k => p k && q k) (fun k => p k && (q k == true)) (fun k _ => by simp) w15 l_v1.out l_v2.out).mono ?_
  rintro e w16 ⟨rfl, hB⟩
  replace l_v1 := hidden (l_v1.out.below hB)
  replace l_v2 := hidden (l_v2.out.below hB)
  replace E := hidden (E.out.next hB)
  clear hB l_v1 l_v2
  go_wp2_with fail
  refine (joinB (minus_c (.pointer (some ⟨s, 0, none⟩)) (.pointer (some ⟨t, 0, none⟩)) ws us w16 hfs.out hft.out (.inr ⟨s, g, rfl, E.out.s⟩) (.inr ⟨t, h, rfl, E.out.t⟩))).mono ?_
  rintro e w17 ⟨o, rfl, go, zo, hfo, hio, hso, hB⟩
  replace hfo := hidden hfo
  replace hio := hidden hio
  have l_so := hidden hso
  clear hso
  replace E := hidden (E.out.next hB)
  clear hB 
  go_wp2_with fail
  refine (listL_c o go zo (fun k => p k && !(q k)) w17 hfo.out (fun k => (hio.out k).trans (by rw [his.out, hit.out])) l_so.out E.out.tab).mono ?_
  rintro e w18 ⟨v1, rfl, l_v1, hB⟩
  replace l_v1 := hidden l_v1
  replace l_so := hidden (l_so.out.below hB)
  replace E := hidden (E.out.next hB)
  clear hB l_so hfo hio
  go_wp2_with fail
  refine (pick_c vx vy p q false w18 E.out.x.holds E.out.y).mono ?_
  rintro e w19 ⟨v2, rfl, l_v2, hB⟩
  replace l_v2 := hidden l_v2
  replace l_v1 := hidden (l_v1.out.below hB)
  replace E := hidden (E.out.next hB)
  clear hB 
  go_wp2_with fail
  refine (rsameT_c v1 v2 (fun k => p k && !(q k)) (fun k => p k && (q k == false)) (fun k _ => by cases q k <;> simp) w19 l_v1.out l_v2.out).mono ?_
  rintro e w20 ⟨rfl, hB⟩
  replace l_v1 := hidden (l_v1.out.below hB)
  replace l_v2 := hidden (l_v2.out.below hB)
  replace E := hidden (E.out.next hB)
  clear hB l_v1 l_v2
  go_wp2_with fail
  refine (rsameL_c vx vy p q sm hsm.out w20 E.out.x.holds E.out.y).mono ?_
  rintro e w21 ⟨rfl, hB⟩
  replace E := hidden (E.out.next hB)
  clear hB 
  go_wp2_with fail
  refine (askB sm (same_s (.pointer (some ⟨s, 0, none⟩)) (.pointer (some ⟨t, 0, none⟩)) ws us w21 hfs.out hft.out (.inr ⟨s, g, rfl, E.out.s⟩) (.inr ⟨t, h, rfl, E.out.t⟩)) hsm.out (all_has hpz.out hqz.out his.out hit.out)).mono ?_
  rintro e w22 ⟨rfl, hB⟩
  replace E := hidden (E.out.next hB)
  clear hB 
  go_wp2_with fail
  refine (wordsH_c s g ws w22 hfs.out E.out.s).mono ?_
  rintro e w23 ⟨v1, m1, rfl, hm1, l_v1, hB⟩
  replace hm1 := hidden hm1
  replace l_v1 := hidden l_v1
  replace E := hidden (E.out.next hB)
  clear hB 
  go_wp2_with fail
  refine (wordsH_c t h us w23 hft.out E.out.t).mono ?_
  rintro e w24 ⟨v2, m2, rfl, hm2, l_v2, hB⟩
  replace hm2 := hidden hm2
  replace l_v2 := hidden l_v2
  replace l_v1 := hidden (l_v1.out.below hB)
  replace E := hidden (E.out.next hB)
  clear hB 
  go_wp2_with fail
  refine (wsame_c v1 v2 _ _ sm (hsm.out.trans ((all_has hpz.out hqz.out his.out hit.out).trans (trim_same hfs.out hft.out hm1.out hm2.out).symm)) w24 l_v1.out l_v2.out (take_short hfs.out) (take_short hft.out)).mono ?_
  rintro e w25 ⟨rfl, hB⟩
  replace l_v1 := hidden (l_v1.out.below hB)
  replace l_v2 := hidden (l_v2.out.below hB)
  replace E := hidden (E.out.next hB)
  clear hB l_v1 l_v2 hm1 hm2
  go_wp2_with fail
  refine (askB wi (within_s (.pointer (some ⟨s, 0, none⟩)) (.pointer (some ⟨t, 0, none⟩)) ws us w25 hfs.out hft.out (.inr ⟨s, g, rfl, E.out.s⟩) (.inr ⟨t, h, rfl, E.out.t⟩)) hwi.out (all_has2 (fun a b => a && !b) (by simp) hpz.out his.out hit.out)).mono ?_
  rintro e w26 ⟨rfl, hB⟩
  replace E := hidden (E.out.next hB)
  clear hB 
  go_wp2_with fail
  refine (pickN_c vx vy p q false w26 E.out.x.holds E.out.y).mono ?_
  rintro e w27 ⟨a, n, c, rfl, hn, hh, hB⟩
  have hn1 : ((n : Int) == 0) = wi := by rw [hn]; exact count_is hwi.out (fun k => by cases q k <;> simp)
  clear hn hh
  replace E := hidden (E.out.next hB)
  clear hB 
  go_wp2_with fail
  refine (meetB me (meets_s (.pointer (some ⟨s, 0, none⟩)) (.pointer (some ⟨t, 0, none⟩)) ws us w27 hfs.out hft.out (.inr ⟨s, g, rfl, E.out.s⟩) (.inr ⟨t, h, rfl, E.out.t⟩)) hme.out (all_has2 (fun a b => a && b) (by simp) hpz.out his.out hit.out)).mono ?_
  rintro e w28 ⟨rfl, hB⟩
  replace E := hidden (E.out.next hB)
  clear hB 
  go_wp2_with fail
  refine (pickN_c vx vy p q true w28 E.out.x.holds E.out.y).mono ?_
  rintro e w29 ⟨a2, n2, c2, rfl, hn, hh, hB⟩
  have hn2 : decide ((0 : Int) < (n2 : Int)) = !me := by rw [hn]; exact count_pos hme.out (fun k => by simp)
  have hn3 : decide (0 < n2) = !me := by rw [← hn2]; simp
  clear hn hh
  replace E := hidden (E.out.next hB)
  clear hB 
  go_wp2_with fail
  refine (listL_c s g ws p w29 hfs.out his.out E.out.s E.out.tab).mono ?_
  rintro e w30 ⟨v1, rfl, l_v1, hB⟩
  replace l_v1 := hidden l_v1
  replace E := hidden (E.out.next hB)
  clear hB 
  go_wp2_with fail
  refine (rsameT_c v1 vx p p (fun _ _ => rfl) w30 l_v1.out E.out.x.holds).mono ?_
  rintro e w31 ⟨rfl, hB⟩
  replace l_v1 := hidden (l_v1.out.below hB)
  replace E := hidden (E.out.next hB)
  clear hB l_v1
  go_wp2_with fail
  refine (listL_c t h us q w31 hft.out hit.out E.out.t E.out.tab).mono ?_
  rintro e w32 ⟨v1, rfl, l_v1, hB⟩
  replace l_v1 := hidden l_v1
  replace E := hidden (E.out.next hB)
  clear hB 
  go_wp2_with fail
  refine (rsameT_c v1 vy q q (fun _ _ => rfl) w32 l_v1.out E.out.y).mono ?_
  rintro e w33 ⟨rfl, hB⟩
  replace l_v1 := hidden (l_v1.out.below hB)
  replace E := hidden (E.out.next hB)
  clear hB l_v1
  go_wp2_with fail
  refine (joinB (and_c (.pointer (some ⟨s, 0, none⟩)) (.pointer (some ⟨t, 0, none⟩)) ws us w33 hfs.out hft.out (.inr ⟨s, g, rfl, E.out.s⟩) (.inr ⟨t, h, rfl, E.out.t⟩))).mono ?_
  rintro e w34 ⟨o, rfl, go, zo, hfo, hio, hso, hB⟩
  replace hfo := hidden hfo
  replace hio := hidden hio
  have l_so := hidden hso
  clear hso
  replace E := hidden (E.out.next hB)
  clear hB 
  go_wp2_with fail
  refine (wordsH_c o go zo w34 hfo.out l_so.out).mono ?_
  rintro e w35 ⟨v1, m1, rfl, hm1, l_v1, hB⟩
  replace hm1 := hidden hm1
  replace l_v1 := hidden l_v1
  replace l_so := hidden (l_so.out.below hB)
  replace E := hidden (E.out.next hB)
  clear hB l_so
  go_wp2_with fail
  refine (pick_c vx vy p q true w35 E.out.x.holds E.out.y).mono ?_
  rintro e w36 ⟨v2, rfl, l_v2, hB⟩
  replace l_v2 := hidden l_v2
  replace l_v1 := hidden (l_v1.out.below hB)
  replace E := hidden (E.out.next hB)
  clear hB 
  go_wp2_with fail
  refine (rwords_c v2 (fun k => p k && (q k == true)) w36 l_v2.out).mono ?_
  rintro e w37 ⟨v3, rfl, us3, hwd3, l_v3, hB⟩
  replace hwd3 := hidden hwd3
  replace l_v3 := hidden l_v3
  replace l_v1 := hidden (l_v1.out.below hB)
  replace l_v2 := hidden (l_v2.out.below hB)
  replace E := hidden (E.out.next hB)
  clear hB l_v2
  go_wp2_with fail
  refine (wsame_c v1 v3 _ _ true ⟨fun _ => trim_wd hfo.out hm1.out (fun k => (hio.out k).trans (by rw [his.out, hit.out]; simp)) hwd3.out rfl, fun _ => rfl⟩ w37 l_v1.out l_v3.out (take_short hfo.out) hwd3.out.fit.short).mono ?_
  rintro e w38 ⟨rfl, hB⟩
  replace l_v1 := hidden (l_v1.out.below hB)
  replace l_v3 := hidden (l_v3.out.below hB)
  replace E := hidden (E.out.next hB)
  clear hB l_v1 l_v3 hm1 hwd3 hfo hio
  go_wp2_with fail
  refine (hlv.out w38 E.out.below).mono ?_
  rintro e wz ⟨rfl, hC⟩
  have hfin : Hid (GoX.Calm w wz) := (GoX.Calm.of_below E.out.below).trans hC
  clear hC E
  go_wp2
  go_ret
  exact ⟨rfl, hfin.out⟩
end Go.Proofs.YtieinedancdokaaDoor