/-
  AN ITEM OF A HEAP LET DOWN: heap.sink, by contract.
-/
import Derived.Test.YtapdkdfgjjdbkaaHApp
import Derived.Test.YtapdkdfgjjdbkaaHRise
import Derived.Test.YtapdkdfgjjdbkaaHPeek
namespace Go.Proofs.Ytapdkdfgjjdbkaa
open Go.ChangeShapes Go.WideShapes Go.ChangeAt Go.RowKit

theorem lt_of_lt_le {x y z : It} (h : icmp x y < 0) (h2 : le y z) : icmp x z < 0 := by
  have h3 := le_trans (le_of_lt h) h2
  by_cases h4 : icmp x z < 0
  · exact h4
  · have h5 := le_anti h3 h4
    subst h5
    exact absurd h h2
/-- c is the least of i and of the t first below it. -/
structure Least (f : Nat → It) (n i t c : Nat) : Prop where
  is : c = i ∨ (2 * i + 1 ≤ c ∧ c < 2 * i + 1 + t ∧ icmp (f c) (f i) < 0)
  lt : c < n
  self : le (f c) (f i)
  all : ∀ j, 2 * i + 1 ≤ j → j < 2 * i + 1 + t → j < n → le (f c) (f j)
theorem Least.start {f : Nat → It} {n i : Nat} (h : i < n) : Least f n i 0 i := ⟨.inl rfl, h, le_refl _, fun j _ _ _ => by omega⟩
theorem Least.take {f : Nat → It} {n i t c : Nat} (h : Least f n i t c) (hn : 2 * i + 1 + t < n) (hlt : icmp (f (2 * i + 1 + t)) (f c) < 0) : Least f n i (t + 1) (2 * i + 1 + t) :=
  ⟨.inr ⟨by omega, by omega, lt_of_lt_le hlt h.self⟩, hn, le_trans (le_of_lt hlt) h.self, fun j h1 h2 h3 => by
    by_cases e : j = 2 * i + 1 + t
    · subst e; exact le_refl _
    · exact le_trans (le_of_lt hlt) (h.all j h1 (by omega) h3)⟩
theorem Least.keep {f : Nat → It} {n i t c : Nat} (h : Least f n i t c) (hlt : ¬ icmp (f (2 * i + 1 + t)) (f c) < 0) : Least f n i (t + 1) c :=
  ⟨h.is.imp id fun h => ⟨h.1, by omega, h.2.2⟩, h.lt, h.self, fun j h1 h2 h3 => by
    by_cases e : j = 2 * i + 1 + t
    · subst e; exact hlt
    · exact h.all j h1 (by omega) h3⟩
theorem Least.full {f : Nat → It} {n i t c : Nat} (h : Least f n i t c) (ht : t = 2 ∨ n ≤ 2 * i + 1 + t) : ∀ j, 0 < j → j < n → (j - 1) / 2 = i → le (f c) (f j) := fun j h0 h1 h2 =>
  h.all j (by omega) (by omega) h1
/-- While the item sinks: i is its place. -/
structure Sinks (B b g cap n : Nat) (ys : List It) (w x : World) (i : Nat) (L : List Pr) : Prop where
  heap : HeapL B x b g cap L
  len : L.length = n
  perm : (L.map (·.1)).Perm ys
  down : DownBut (itF L) n i
  lt : i < n
  below : Below B w x
  save : Save2 b g w x
theorem Sinks.step {B b g cap n : Nat} {ys : List It} {w x z : World} {i : Nat} {L : List Pr} (h : Sinks B b g cap n ys w x i L) (hB : Below x.heap.size x z) : Sinks B b g cap n ys w z i L :=
  ⟨h.heap.step hB, h.len, h.perm, h.down, h.lt, h.below.trans (hB.mono (by have := h.heap.hb; have := (Array.getElem?_eq_some_iff.1 h.heap.box).1; omega)), h.save.trans (Save2.of_below (b := b) (g := g) hB) (.inl rfl)⟩
theorem Sinks.next {B b g cap n : Nat} {ys : List It} {w x z : World} {i t c : Nat} {L : List Pr} (h : Sinks B b g cap n ys w x i L) (hl : Least (itF L) n i t c) (ht2 : t ≤ 2) (ht : t = 2 ∨ n ≤ 2 * i + 1 + t) (hc : c ≠ i) (hz : HeapL B z b g cap (swapL L i c)) (hr : Rest g x z) (hb : Below B x z) : Sinks B b g cap n ys w z c (swapL L i c) := by
  have hi := h.lt
  have hcn := hl.lt
  have hlen := h.len
  refine ⟨hz, by rw [swapL_len]; exact hlen, ((swapL_perm (by omega) (by omega)).map _).trans h.perm, ?_, hl.lt, h.below.trans hb, ⟨Nat.le_trans h.save.size hb.size, fun k hk k1 k2 => (hr k k2).trans (h.save.block k hk k1 k2)⟩⟩
  rw [swapL_at (by omega) (by omega)]
  rcases hl.is with e | ⟨h1, h2, h3⟩
  · exact absurd e hc
  · exact h.down.sink (by omega) hl.lt (by omega) h3 (hl.full ht)
/-- What is looked at. -/
def sunk (b g i p n cap : Nat) (x y : Pr) : List (Addr × Value) := (⟨b, 0, none⟩, .slice (some ⟨g, 0, none⟩) n cap) :: eight g (i * 4) g (p * 4) x.1 y.1 x.2 y.2
theorem sunk_keeps {B b g cap i p : Nat} {L : List Pr} {w : World} (h : HeapL B w b g cap L) (hi : i < L.length) (hp : p < L.length) : Keeps w (sunk b g i p L.length cap (L.getD i pr0) (L.getD p pr0)) w.drew := by
  obtain ⟨p0, p1, p2, p3⟩ := h.at4 hi
  obtain ⟨q0, q1, q2, q3⟩ := h.at4 hp
  have hc := h.cell
  refine Keeps.drew ⟨Below.refl _ _, fun p hp => ?_⟩
  simp only [sunk, eight, List.mem_cons, List.not_mem_nil, or_false] at hp
  rcases hp with rfl | rfl | rfl | rfl | rfl | rfl | rfl | rfl | rfl <;> assumption
theorem order_keeps {B b g cap i p : Nat} {L : List Pr} {w : World} {F : List (Addr × Value)} (h : HeapL B w b g cap L) (hi : i < L.length) (hp : p < L.length) (hl : ∀ p ∈ L, p.1.l.length ≤ 1000) (z : In (Keeps w F)) :
    Calls Try.prog 22 #[itV (L.getD i pr0).1 (L.getD i pr0).2, itV (L.getD p pr0).1 (L.getD p pr0).2] z.w fun e w'' => e = .returned (.int .i64 (icmp (itF L i) (itF L p))) ∧ ∃ u : In (Keeps w F), w'' = u.w := by
  have o1 := holds_of_owns (h.its _ (getD_mem hi))
  have o2 := holds_of_owns (h.its _ (getD_mem hp))
  exact later_of ((horder_c (L.getD i pr0).1 (L.getD p pr0).1 (L.getD i pr0).2 (L.getD p pr0).2 z.w (o1.below z.h.1) (o2.below z.h.1) (by have := hl _ (getD_mem hi); omega) (by have := hl _ (getD_mem hp); omega)).mono fun _ _ ⟨he, hb⟩ => ⟨he, z.h.below hb⟩)
set_option maxHeartbeats 3200000 in
set_option maxRecDepth 1000000 in
theorem sink_c {B b g cap n : Nat} {L : List Pr} (w : World) (h : HeapL B w b g cap L) (hL : L.length = n) (h0 : 0 < n) (hn : n ≤ 1000) (hl : ∀ p ∈ L, p.1.l.length ≤ 1000) (hd : DownBut (itF L) n 0) :
    Calls Try.prog 26 #[.pointer (some ⟨b, 0, none⟩)] w fun e w' => e = .returned (.tuple #[]) ∧ ∃ L', HeapL B w' b g cap L' ∧ (L'.map (·.1)).Perm (L.map (·.1)) ∧ Up (itF L') n ∧ Below B w w' ∧ Save2 b g w w' := by
  have hst : Hid (Sinks B b g cap n (L.map (·.1)) w w 0 L) := ⟨h, hL, List.Perm.refl _, hd, h0, Below.refl _ _, Save2.refl _ _ _⟩
  have hyl : Hid (∀ z ∈ L.map (·.1), z.l.length ≤ 1000) := fun z hz => by
    obtain ⟨q, hq, rfl⟩ := List.mem_map.1 hz
    exact hl q hq
  clear h hL hl hd
  generalize L.map (·.1) = ys at *
  go_enter Try.func26, Try.ntmps26
  go_wp2_with fail
  go_loopw [2] (fun u y => ∃ i L', u = .int .i64 (i : Nat) ∧ Hid (Sinks B b g cap n ys w y i L')) (fun u _ => n - (intOf u).toNat)
  case atStart => exact ⟨0, L, rfl, hst⟩
  case round =>
    clear hst
    obtain ⟨i, L', rfl, hS⟩ := hrel
    have hi := hS.out.lt
    have hls : Hid (Least (itF L') n i 0 i) := Least.start hi
    have hi9 : (i : Int) ≤ 1000 := by omega
    have hi0 : (0 : Int) ≤ i := by omega
    go_wp2_with fail
    go_loopw [3, 4] (fun u v y => ∃ t c m, u = .int .i64 (c : Nat) ∧ v = .int .i64 (m : Nat) ∧ m = 2 * i + 1 + t ∧ t ≤ 2 ∧ Hid (Least (itF L') n i t c) ∧ Hid (Sinks B b g cap n ys w y i L')) (fun _ v _ => 2 * i + 3 - (intOf v).toNat)
    case atStart => exact ⟨0, i, 2 * i + 1, rfl, by go_num, rfl, by omega, hls, hS⟩
    case round =>
      clear hls hS
      obtain ⟨t, c, m, rfl, rfl, hm, ht, hls, hS⟩ := hrel
      have hcn := hls.out.lt
      replace hm := hiddenI hm
      by_cases h2 : t = 2
      · have hg1 : ¬ (m : Int) ≤ 2 * (i : Int) + 2 := by have := hm.out; omega
        have hex : Hid (t = 2 ∨ n ≤ 2 * i + 1 + t) := .inl h2
        by_cases hci : c = i
        · have hup := hiddenI (show Up (itF L') n by have := hS.out.down.done (hci ▸ hls.out.full hex.out); exact this)
          have hci' : (c : Int) = i := by omega
          subst hci
          go_wp2
          exact bodyPost_ret (results_none rfl _ _ _) rfl ⟨rfl, L', hS.out.heap, hS.out.perm, hup.out, hS.out.below, hS.out.save⟩
        · have hci' : ¬ (c : Int) = (i : Int) := by omega
          have hcn := hls.out.lt
          have hic : i < c := by
            rcases hls.out.is with e | e
            · exact absurd e hci
            · omega
          have hsw := hswap_c hS.out.heap (i := i) (j := c) (by have := hS.out.len; omega) (by have := hS.out.len; omega)
          go_wp2_with fail
          refine hsw.mono ?_
          rintro e w2 ⟨rfl, hz, hzb, hzr⟩
          have hfin := hiddenI (hS.out.next hls.out ht hex.out hci hz hzr hzb)
          clear hz hzb hzr hsw hS hls hex
          go_wp2
          go_roundw
          case rel => exact ⟨c, _, rfl, hfin⟩
          case measure => simp [intOf]; omega
      · have hg1 : (m : Int) ≤ 2 * (i : Int) + 2 := by have := hm.out; omega
        by_cases hmn : m < n
        · have hg2 : (m : Int) < (n : Int) := by omega
          have hc0 : (c : Int) < (n : Int) := by omega
          have hlen := hS.out.len
          have hll : ∀ p ∈ L', p.1.l.length ≤ 1000 := fun p hp => hyl.out _ (hS.out.perm.mem_iff.1 (List.mem_map_of_mem hp))
          have hk := sunk_keeps hS.out.heap (i := m) (p := c) (by omega) (by omega)
          have hcall := fun z => order_keeps (F := sunk b g m c L'.length cap (L'.getD m pr0) (L'.getD c pr0)) hS.out.heap (i := m) (p := c) (by omega) (by omega) hll z
          have hT := hiddenI fun (h : icmp (itF L' m) (itF L' c) < 0) => (hm.out ▸ hls.out.take (by have := hm.out; omega) (by rw [← hm.out]; exact h) : Least (itF L') n i (t + 1) m)
          have hF := hiddenI fun (h : ¬ icmp (itF L' m) (itF L' c) < 0) => hls.out.keep (by rw [← hm.out]; exact h)
          have hst := hiddenI fun (x : World) (h : Below wr.heap.size wr x) => hS.out.step h
          clear hll
          replace hlen := hiddenI hlen
          rw [hlen.out] at hk hcall
          generalize icmp (itF L' m) (itF L' c) = o at *
          generalize L'.getD m pr0 = px at *
          generalize L'.getD c pr0 = py at *
          obtain ⟨⟨xc, xl, xp, xr⟩, xv⟩ := px
          obtain ⟨⟨yc, yl, yp, yr⟩, yv⟩ := py
          simp only [itV] at hcall
          have hc8 : Hid (HeapL B wr b g cap L') := hS.out.heap
          have hbc := hc8.out.cell
          rw [hlen.out] at hbc
          clear hS hls
          have f0 : ∀ z : In (Keeps wr (sunk b g m c n cap (⟨xc, xl, xp, xr⟩, xv) (⟨yc, yl, yp, yr⟩, yv))), _ := Keeps.at 0 rfl
          have f1 : ∀ z : In (Keeps wr (sunk b g m c n cap (⟨xc, xl, xp, xr⟩, xv) (⟨yc, yl, yp, yr⟩, yv))), _ := Keeps.at 1 rfl
          have f2 : ∀ z : In (Keeps wr (sunk b g m c n cap (⟨xc, xl, xp, xr⟩, xv) (⟨yc, yl, yp, yr⟩, yv))), _ := Keeps.at 2 rfl
          have f3 : ∀ z : In (Keeps wr (sunk b g m c n cap (⟨xc, xl, xp, xr⟩, xv) (⟨yc, yl, yp, yr⟩, yv))), _ := Keeps.at 3 rfl
          have f4 : ∀ z : In (Keeps wr (sunk b g m c n cap (⟨xc, xl, xp, xr⟩, xv) (⟨yc, yl, yp, yr⟩, yv))), _ := Keeps.at 4 rfl
          have f5 : ∀ z : In (Keeps wr (sunk b g m c n cap (⟨xc, xl, xp, xr⟩, xv) (⟨yc, yl, yp, yr⟩, yv))), _ := Keeps.at 5 rfl
          have f6 : ∀ z : In (Keeps wr (sunk b g m c n cap (⟨xc, xl, xp, xr⟩, xv) (⟨yc, yl, yp, yr⟩, yv))), _ := Keeps.at 6 rfl
          have f7 : ∀ z : In (Keeps wr (sunk b g m c n cap (⟨xc, xl, xp, xr⟩, xv) (⟨yc, yl, yp, yr⟩, yv))), _ := Keeps.at 7 rfl
          have f8 : ∀ z : In (Keeps wr (sunk b g m c n cap (⟨xc, xl, xp, xr⟩, xv) (⟨yc, yl, yp, yr⟩, yv))), _ := Keeps.at 8 rfl
          dsimp only at f0 f1 f2 f3 f4 f5 f6 f7 f8
          generalize sunk b g m c n cap (⟨xc, xl, xp, xr⟩, xv) (⟨yc, yl, yp, yr⟩, yv) = F at *
          go_wp2_with fail
          refine wp_region_later (Keeps wr F) (by kernel_rfl) (by kernel_rfl) hk (fun hne => ?_)
          repeat (go_big_quiet_step (exact hcall _))
          refine wpQuiet_nil ?_
          intro wL hL
          have hB := hiddenI (hst.out wL hL.1)
          clear f0 f1 f2 f3 f4 f5 f6 f7 f8 hk hcall hL hst hbc hc8
          by_cases ho : o < 0
          · have hls := hiddenI (hT.out ho)
            clear hT hF
            go_wp2
            go_roundw
            case rel => exact ⟨t + 1, m, m + 1, rfl, by go_num, by have := hm.out; omega, by omega, hls, hB⟩
            case measure => simp [intOf]; omega
          · have hls := hiddenI (hF.out (by omega))
            clear hT hF
            go_wp2
            go_roundw
            case rel => exact ⟨t + 1, c, m + 1, rfl, by go_num, by have := hm.out; omega, by omega, hls, hB⟩
            case measure => simp [intOf]; omega
        · have hg2 : ¬ (m : Int) < (n : Int) := by omega
          have hlen := hS.out.len
          have hbc := hS.out.heap.cell
          rw [hlen] at hbc
          replace hlen := hiddenI hlen
          have hex : Hid (t = 2 ∨ n ≤ 2 * i + 1 + t) := .inr (by have := hm.out; omega)
          by_cases hci : c = i
          · have hup := hiddenI (show Up (itF L') n by have := hS.out.down.done (hci ▸ hls.out.full hex.out); exact this)
            have hci' : (c : Int) = i := by omega
            subst hci
            go_wp2
            exact bodyPost_ret (results_none rfl _ _ _) rfl ⟨rfl, L', hS.out.heap, hS.out.perm, hup.out, hS.out.below, hS.out.save⟩
          · have hci' : ¬ (c : Int) = (i : Int) := by omega
            have hcn := hls.out.lt
            have hic : i < c := by
              rcases hls.out.is with e | e
              · exact absurd e hci
              · omega
            have hsw := hswap_c hS.out.heap (i := i) (j := c) (by have := hS.out.len; omega) (by have := hS.out.len; omega)
            go_wp2_with fail
            refine hsw.mono ?_
            rintro e w2 ⟨rfl, hz, hzb, hzr⟩
            have hfin := hiddenI (hS.out.next hls.out ht hex.out hci hz hzr hzb)
            clear hz hzb hzr hsw hS hls hex
            go_wp2
            go_roundw
            case rel => exact ⟨c, _, rfl, hfin⟩
            case measure => simp [intOf]; omega
end Go.Proofs.Ytapdkdfgjjdbkaa
/-
  THE FIRST ITEM TAKEN OUT OF A HEAP: heap.Pop, by contract.
-/
namespace Go.Proofs.Ytapdkdfgjjdbkaa
open Go.ChangeShapes Go.WideShapes Go.ChangeAt Go.RowKit

theorem encs_take : ∀ (L : List Pr) (m : Nat), encs (L.take m) = (encs L).take (m * 4)
  | [], m => by simp [encs]
  | p :: L, 0 => by simp [encs]
  | p :: L, m + 1 => by
    have hl : (encP p).length = 4 := rfl
    rw [List.take_succ_cons, encs_cons, encs_cons, encs_take L m, List.take_append, hl, show (m + 1) * 4 - 4 = m * 4 by omega, List.take_of_length_le (l := encP p) (by rw [hl]; omega)]
theorem own_far2 {w : World} {B t s n b : Nat} {v : Value} {xs : List Value} (h : w.ownsRow B t s v n xs) (hb : v.ownBlock ≠ some b) (j : Nat) (u : Value) : (w.setCell ⟨b, j, none⟩ u).ownsRow B t s v n xs := by
  obtain ⟨hl, h⟩ := h
  refine ⟨hl, ?_⟩
  rcases h with h | ⟨g, cap, cur, h1, h2, h3, h4⟩
  · exact .inl h
  · refine .inr ⟨g, cap, cur, h1, h2, ?_, h4⟩
    have hne : b ≠ g := fun e => hb (by rw [h1, e]; rfl)
    exact (heap_oI hne).trans h3
/-- A heap's row is cut. -/
theorem HeapL.cut {B : Nat} {w : World} {b g cap : Nat} {L : List Pr} (h : HeapL B w b g cap L) {m : Nat} (hm : m ≤ L.length) : HeapL B (w.setCell ⟨b, 0, none⟩ (.slice (some ⟨g, 0, none⟩) m cap)) b g cap (L.take m) := by
  have hl : (L.take m).length = m := by rw [List.length_take]; omega
  refine ⟨h.hb, h.hg, by rw [heap_setI h.box 0 _, hl]; rfl, ?_, fun p hp => own_far2 (h.its p (List.mem_of_mem_take hp)) ?_ 0 _⟩
  · refine owns_setO ?_ h.box (by decide) 0 _
    rw [hl, encs_take]
    obtain ⟨hl2, hr⟩ := h.row
    rcases hr with ⟨e, _⟩ | ⟨g', cap', cur, e, h1, h2, h3, h4, h5, h6⟩
    · cases e
    · simp only [Value.slice.injEq, Option.some.injEq, Addr.mk.injEq, and_true, true_and] at e
      obtain ⟨rfl, rfl⟩ := e
      refine ⟨by rw [List.length_take, encs_len]; omega, .inr ⟨g, cap, cur, rfl, h1, h2, by omega, h4, h5, ?_⟩⟩
      rw [← h6, List.take_take, Nat.min_eq_left (by omega)]
  · exact row_ne (h.its p (List.mem_of_mem_take hp)) h.box (by decide)
theorem sink0_c {b g cap : Nat} (w : World) (hc : w.cell? ⟨b, 0, none⟩ = some (.slice (some ⟨g, 0, none⟩) 0 cap)) :
    Calls Try.prog 26 #[.pointer (some ⟨b, 0, none⟩)] w fun e w' => e = .returned (.tuple #[]) ∧ w' = w := by
  go_enter Try.func26, Try.ntmps26
  go_wp2_with fail
  go_loopw [2] (fun u y => u = .int .i64 0 ∧ y = w) (fun _ _ => 0)
  case atStart => exact ⟨rfl, rfl⟩
  case round =>
    obtain ⟨rfl, rfl⟩ := hrel
    go_wp2_with fail
    go_loopw [3, 4] (fun u v y => u = .int .i64 0 ∧ v = .int .i64 1 ∧ y = wr) (fun _ _ _ => 0)
    case atStart => exact ⟨rfl, rfl, rfl⟩
    case round =>
      obtain ⟨rfl, rfl, rfl⟩ := hrel
      go_wp2
      exact bodyPost_ret (results_none rfl _ _ _) rfl ⟨rfl, rfl⟩
/-- What is left of a heap whose first and last items changed places. -/
theorem pop_math {L : List Pr} {n : Nat} (hL : L.length = n + 1) (hu : Up (itF L) (n + 1)) :
    ((L.getD 0 pr0).1 :: ((swapL L 0 n).take n).map (·.1)).Perm (L.map (·.1)) ∧ DownBut (itF ((swapL L 0 n).take n)) n 0 ∧ ((swapL L 0 n).take n).length = n := by
  have hlen : (swapL L 0 n).length = n + 1 := by rw [swapL_len, hL]
  have hp := swapL_perm (L := L) (i := 0) (j := n) (by omega) (by omega)
  have e : swapL L 0 n = (swapL L 0 n).take n ++ [L.getD 0 pr0] := by
    have h1 := List.take_append_drop n (swapL L 0 n)
    have h2 : (swapL L 0 n).drop n = [L.getD 0 pr0] := by
      have h3 : n < (swapL L 0 n).length := by omega
      rw [List.drop_eq_getElem_cons h3, List.drop_of_length_le (by omega)]
      congr 1
      simp [swapL]
    rw [h2] at h1
    exact h1.symm
  have hat : ∀ k, k < n → itF ((swapL L 0 n).take n) k = swapF (itF L) 0 n k := fun k hk => by
    rw [← swapL_at (by omega) (by omega)]
    simp [itF, List.getD, List.getElem?_take_of_lt hk]
  refine ⟨?_, DownBut.start fun j h0 h1 h2 => ?_, by rw [List.length_take]; omega⟩
  · have h3 := hp.map (·.1)
    rw [e, List.map_append] at h3
    exact (List.perm_append_comm (l₁ := [(L.getD 0 pr0).1])).trans h3
  · have h3 := hu j h0 (by omega)
    rw [hat _ h1, hat _ (by omega)]
    simpa [swapF, show ¬ j = n by omega, show ¬ j = 0 by omega, show ¬ (j - 1) / 2 = n by omega, h2] using h3
end Go.Proofs.Ytapdkdfgjjdbkaa
/-
  THE FIRST ITEM TAKEN OUT OF A HEAP: heap.Pop itself, by contract.
-/
namespace Go.Proofs.Ytapdkdfgjjdbkaa
open Go.ChangeShapes Go.WideShapes Go.ChangeAt Go.RowKit

theorem HeapL.cap_le {B : Nat} {w : World} {b g cap : Nat} {L : List Pr} (h : HeapL B w b g cap L) : L.length ≤ cap := by
  rcases h.row.2 with ⟨e, _⟩ | ⟨g', cap', cur, e, _, hc, h3, _⟩
  · cases e
  · simp only [Value.slice.injEq, Option.some.injEq, Addr.mk.injEq, and_true, true_and] at e
    obtain ⟨_, rfl⟩ := e
    exact h3
/-- A store into another item's box leaves a heap as it was. -/
theorem HeapL.setFar {B : Nat} {x : World} {b g cap R : Nat} {L : List Pr} {cs : Array Value} (h : HeapL B x b g cap L) (hR : x.heap[R]? = some (.cells cs 24)) (hg : R ≠ g) (j : Nat) (u : Value) : HeapL B (x.setCell ⟨R, j, none⟩ u) b g cap L :=
  ⟨h.hb, h.hg, (heap_oI (ne_types hR h.box (by decide))).trans h.box, own_far2 h.row (fun e => hg (Option.some.inj e).symm) j u, fun p hp => owns_setO (h.its p hp) hR (by decide) j u⟩
theorem Save2.setFar {b g R : Nat} {w x : World} (h : Save2 b g w x) (hR : w.heap.size ≤ R) (j : Nat) (u : Value) : Save2 b g w (x.setCell ⟨R, j, none⟩ u) :=
  ⟨by have := h.size; simpa [World.setCell] using this, fun k hk h1 h2 => (heap_oI (show R ≠ k by omega)).trans (h.block k hk h1 h2)⟩
theorem own_save2 {b g : Nat} {w x : World} {B t s n : Nat} {v : Value} {xs : List Value} (h : w.ownsRow B t s v n xs) (hS : Save2 b g w x) (hb : v.ownBlock ≠ some b) (hg : v.ownBlock ≠ some g) : x.ownsRow B t s v n xs := by
  obtain ⟨hl, h⟩ := h
  refine ⟨hl, ?_⟩
  rcases h with h | ⟨k, cap, cur, h1, h2, h3, h4⟩
  · exact .inl h
  · refine .inr ⟨k, cap, cur, h1, h2, ?_, h4⟩
    exact (hS.block k (Array.getElem?_eq_some_iff.1 h3).1 (fun e => hb (by rw [h1, ← e]; rfl)) (fun e => hg (by rw [h1, ← e]; rfl))).trans h3
/-- Whatever the heap's size. -/
theorem sinkAny_c {B b g cap n : Nat} {T : List Pr} (w : World) (h : HeapL B w b g cap T) (hT : T.length = n) (hn : n ≤ 1000) (hl : ∀ p ∈ T, p.1.l.length ≤ 1000) (hd : DownBut (itF T) n 0) :
    Calls Try.prog 26 #[.pointer (some ⟨b, 0, none⟩)] w fun e w' => e = .returned (.tuple #[]) ∧ ∃ L', HeapL B w' b g cap L' ∧ (L'.map (·.1)).Perm (T.map (·.1)) ∧ Up (itF L') L'.length ∧ Below B w w' ∧ Save2 b g w w' := by
  by_cases h0 : n = 0
  · subst h0
    have hc := h.cell
    rw [hT] at hc
    refine (sink0_c w hc).mono ?_
    rintro e w' ⟨rfl, rfl⟩
    exact ⟨rfl, T, h, List.Perm.refl _, fun j h1 h2 => by omega, Below.refl _ _, Save2.refl _ _ _⟩
  · refine (sink_c w h hT (by omega) hn hl hd).mono ?_
    rintro e w' ⟨rfl, L', h1, h2, h3, h4, h5⟩
    have hl' : L'.length = n := by have := h2.length_eq; simpa [hT] using this
    exact ⟨rfl, L', h1, h2, by rw [hl']; exact h3, h4, h5⟩
set_option maxHeartbeats 3200000 in
set_option maxRecDepth 100000 in
theorem pop_c {B b g cap n : Nat} {L : List Pr} (w : World) (h : HeapL B w b g cap L) (hL : L.length = n + 1) (hn : n + 1 ≤ 1000) (hl : ∀ p ∈ L, p.1.l.length ≤ 1000) (hu : Up (itF L) (n + 1)) :
    Calls Try.prog 15 #[.pointer (some ⟨b, 0, none⟩)] w fun e w' => e = .returned (.tuple #[itV (L.getD 0 pr0).1 (L.getD 0 pr0).2, .bool true]) ∧ w'.ownsRow B 3 1 (L.getD 0 pr0).2 (L.getD 0 pr0).1.l.length (ints (L.getD 0 pr0).1.l) ∧
      ∃ L', HeapL B w' b g cap L' ∧ ((L.getD 0 pr0).1 :: L'.map (·.1)).Perm (L.map (·.1)) ∧ Up (itF L') L'.length ∧ Below B w w' ∧ Save2 b g w w' := by
  obtain ⟨hpm, hdn, hln⟩ := pop_math hL hu
  have hll : Hid (∀ p ∈ (swapL L 0 n).take n, p.1.l.length ≤ 1000) := fun p hp => hl _ ((swapL_perm (by omega) (by omega)).mem_iff.1 (List.mem_of_mem_take hp))
  have hgW : Hid (g < w.heap.size ∧ b < w.heap.size ∧ B ≤ w.heap.size) := by
    obtain ⟨cur, hc⟩ := h.block
    have h1 := (Array.getElem?_eq_some_iff.1 hc).1
    have h2 := (Array.getElem?_eq_some_iff.1 h.box).1
    have h3 := h.hb
    exact ⟨h1, h2, by omega⟩
  have hy0 : Hid (w.ownsRow B 3 1 (L.getD 0 pr0).2 (L.getD 0 pr0).1.l.length (ints (L.getD 0 pr0).1.l) ∧ (L.getD 0 pr0).2.ownBlock ≠ some b ∧ (L.getD 0 pr0).2.ownBlock ≠ some g) := by
    have h1 := h.its _ (getD_mem (show 0 < L.length by omega))
    obtain ⟨cur, hc⟩ := h.block
    exact ⟨h1, row_ne h1 h.box (by decide), row_ne h1 hc (by decide)⟩
  obtain ⟨wA, hwA⟩ : ∃ wA, wA = w.alloc (.cells #[.int .i64 0, .slice none 0 0, .int .i64 0, .int .i64 0] 24) := ⟨_, rfl⟩
  have hBA : Below w.heap.size w wA := by rw [hwA]; exact (Below.refl _ _).alloc (Nat.le_refl _) _
  have hXA : wA.heap[w.heap.size]? = some (.cells #[.int .i64 0, .slice none 0 0, .int .i64 0, .int .i64 0] 24) := by rw [hwA]; exact heap_alloc_new _ _
  have hsA : wA.heap.size = w.heap.size + 1 := by rw [hwA]; show (w.heap.push _).size = _; simp
  have hHA := h.step hBA
  have hlen := heaplen_c B b (L.map (·.1)) wA hHA.at
  rw [List.length_map, hL] at hlen
  have h0L : 0 < L.length := by omega
  have hy := hHA.its _ (getD_mem h0L)
  obtain ⟨g0, g1, g2, g3⟩ := hHA.at4 h0L
  have hcA := hHA.cell
  rw [hL] at hcA
  have hcA2 : ∀ o, (wA.alloc o).cell? ⟨b, 0, none⟩ = some (.slice (some ⟨g, 0, none⟩) (n + 1) cap) := fun o => (World.cell?_alloc_lt _ _ _ (World.block_lt_of_cell? _ _ hcA)).trans hcA
  have hsv := own_slice hy
  have hlp : L.getD n pr0 = L.getD n pr0 := rfl
  generalize hY : L.getD 0 pr0 = Y at *
  obtain ⟨⟨yc, yl, yp, yr⟩, yv⟩ := Y
  obtain ⟨ya, ym, yk, hyv⟩ := hsv
  simp only at hyv
  subst hyv
  simp only [itV] at hy g0 g1 g2 g3 ⊢
  obtain ⟨wB, hwB⟩ : ∃ wB, wB = wA.alloc (.cells #[.int .i64 yc, .slice ya ym yk, .int .i64 yp, .int .i64 yr] 24) := ⟨_, rfl⟩
  have hBB : Below wA.heap.size wA wB := by rw [hwB]; exact (Below.refl _ _).alloc (Nat.le_refl _) _
  have hXB : wB.heap[w.heap.size + 1]? = some (.cells #[.int .i64 yc, .slice ya ym yk, .int .i64 yp, .int .i64 yr] 24) := by rw [hwB, ← hsA]; exact heap_alloc_new _ _
  have hHB := hHA.step hBB
  have hsw := hswap_c hHB (i := 0) (j := n) (by omega) (by omega)
  have hXAB := box_below hXA hBB
  have hBw := hiddenI (hBA.trans (hBB.mono hBA.size))
  have hz0 : ((0 : Nat) : Int) = 0 := rfl
  rw [hz0] at hsw
  have hn1 : ¬ ((n : Int) + 1 = 0) := by omega
  have hn2 : (0 : Int) < (n : Int) + 1 := by omega
  have hn3 : (n : Int) < (n : Int) + 1 := by omega
  have hn4 : (0 : Int) ≤ n := by omega
  have hyown := hiddenI hy
  have hHBh := hiddenI hHB
  replace hpm := hiddenI hpm
  replace hdn := hiddenI hdn
  replace hln := hiddenI hln
  replace hwA := hiddenI hwA
  replace hwB := hiddenI hwB
  replace hXA := hiddenI hXA
  replace hXB := hiddenI hXB
  replace hXAB := hiddenI hXAB
  replace hsA := hiddenI hsA
  replace hL := hiddenI hL
  replace hu := hiddenI hu
  replace hl := hiddenI hl
  replace hY := hiddenI hY
  clear hHA hBA hBB hHB hy h hlp
  simp only [Nat.zero_mul, Nat.zero_add] at g0 g1 g2 g3
  go_enter Try.func15, Try.ntmps15
  go_wp2_with fail
  rw [← hwA.out]
  refine hlen.mono ?_
  rintro e w1 ⟨rfl, rfl⟩
  go_wp2_with fail
  rw [← hwB.out]
  refine hsw.mono ?_
  rintro e w2 ⟨rfl, hH2, hB2, hR2⟩
  have hlen2 : Hid ((swapL L 0 n).length = n + 1) := by show _ = _; rw [swapL_len]; exact hL.out
  obtain ⟨d0, d1, d2, d3⟩ := hH2.at4 (k := n) (by rw [hlen2.out]; omega)
  have e0 := hH2.row.frozenAt (n * 4)
  have e1 := hH2.row.frozenAt (n * 4 + 1)
  have e2 := hH2.row.frozenAt (n * 4 + 2)
  have e3 := hH2.row.frozenAt (n * 4 + 3)
  generalize (swapL L 0 n).getD n pr0 = Z at *
  obtain ⟨⟨zc, zl, zp, zr⟩, zv⟩ := Z
  simp only at d0 d1 d2 d3
  have hbc := hH2.cell
  rw [hlen2.out] at hbc
  have hbf : w2.frozen? ⟨b, 0, none⟩ = false := (box1 hH2.box).2
  have hcp := hH2.cap_le
  rw [hlen2.out] at hcp
  have hcp1 : (n : Int) ≤ (cap : Int) := by omega
  have hcp2 : ¬ cap = 0 := by omega
  have hgb := hH2.ne
  have hbg := Ne.symm hgb
  have hP := hiddenI ((hH2.put (k := n) (p := pr0) (by rw [hlen2.out]; omega) ⟨rfl, .inl ⟨rfl, rfl⟩⟩).cut (m := n) (by rw [List.length_set, hlen2.out]; omega))
  have hBf := hiddenI ((below_put4 (hBw.out.mono hgW.out.2.2 |>.trans hB2) hH2.hg n pr0).setCell (p := ⟨b, 0, none⟩) hH2.hb (.slice (some ⟨g, 0, none⟩) n cap))
  have hsz2 := hiddenI hB2.size
  have hbk : Hid (∀ k : Nat, k ≠ b → k ≠ g → ((put4 w2 g n pr0).setCell ⟨b, 0, none⟩ (.slice (some ⟨g, 0, none⟩) n cap)).heap[k]? = wB.heap[k]?) := fun k h1 h2 => (heap_oI (Ne.symm h1)).trans ((put4_other (w := w2) (k := n) (p := pr0) (Ne.symm h2)).trans (hR2 k h2))
  clear hsw hlen hcA hcA2 g0 g1 g2 g3 hwA hwB hH2 hB2 hR2
  have htk : ((swapL L 0 n).set n pr0).take n = (swapL L 0 n).take n := List.take_set_of_le (Nat.le_refl n)
  rw [htk] at hP
  have hsk := sinkAny_c _ hP.out hln.out (by omega) hll.out hdn.out
  obtain ⟨w4, hw4⟩ : ∃ w4, Hid (w4 = (put4 w2 g n pr0).setCell ⟨b, 0, none⟩ (.slice (some ⟨g, 0, none⟩) n cap)) := ⟨_, hiddenI rfl⟩
  have hs4 : Hid (wB.heap.size ≤ w4.heap.size) := by
    have h1 : w2.heap.size ≤ w4.heap.size := by rw [hw4.out]; simp [put4, World.setCell]
    exact Nat.le_trans hsz2.out h1
  rw [← hw4.out] at hP hBf hbk hsk
  have hX4 := hiddenI ((hbk.out w.heap.size (by have := hgW.out; omega) (by have := hgW.out; omega)).trans hXAB.out)
  have hY4 := hiddenI ((hbk.out (w.heap.size + 1) (by have := hgW.out; omega) (by have := hgW.out; omega)).trans hXB.out)
  clear hll hdn hln hXAB hXB htk
  go_wp2_with fail
  replace hw4 := hw4.out
  simp only [put4, pr0, It.none] at hw4
  rw [← hw4]
  refine hsk.mono ?_
  rintro e w5 ⟨rfl, L', hH5, hp5, hu5, hB5, hS5⟩
  have hX5 := (hS5.block w.heap.size (Array.getElem?_eq_some_iff.1 hX4.out).1 (by have := hgW.out; omega) (by have := hgW.out; omega)).trans hX4.out
  have hY5 := (hS5.block (w.heap.size + 1) (Array.getElem?_eq_some_iff.1 hY4.out).1 (by have := hgW.out; omega) (by have := hgW.out; omega)).trans hY4.out
  obtain ⟨⟨x0, x1, x2, x3⟩, z0, z1, z2, z3⟩ := box4 hX5
  rw [← hsA.out] at hY5
  obtain ⟨⟨y0, y1, y2, y3⟩, -⟩ := box4 hY5
  have hfin := hiddenI (heap_set4 hX5 (.int .i64 yc) (.slice ya ym yk) (.int .i64 yp) (.int .i64 yr))
  have hX6 := heap_setI hX5 0 (.int .i64 yc)
  have hX7 := heap_setI hX6 1 (.slice ya ym yk)
  have hX8 := heap_setI hX7 2 (.int .i64 yp)
  have hWg : w.heap.size ≠ g := by have := hgW.out; omega
  have hHf := hiddenI ((((hH5.setFar hX5 hWg 0 (.int .i64 yc)).setFar hX6 hWg 1 (.slice ya ym yk)).setFar hX7 hWg 2 (.int .i64 yp)).setFar hX8 hWg 3 (.int .i64 yr))
  have hBw5 := hBf.out.trans hB5
  have hBg := hiddenI ((((hBw5.setCell (p := ⟨w.heap.size, 0, none⟩) hgW.out.2.2 (.int .i64 yc)).setCell (p := ⟨w.heap.size, 1, none⟩) hgW.out.2.2 (.slice ya ym yk)).setCell (p := ⟨w.heap.size, 2, none⟩) hgW.out.2.2 (.int .i64 yp)).setCell (p := ⟨w.heap.size, 3, none⟩) hgW.out.2.2 (.int .i64 yr))
  have hSw5 : Save2 b g w w5 := ⟨Nat.le_trans (Nat.le_trans hBw.out.size hs4.out) hS5.size, fun k hk h1 h2 => (hS5.block k (Nat.lt_of_lt_of_le hk (Nat.le_trans hBw.out.size hs4.out)) h1 h2).trans ((hbk.out k h1 h2).trans (hBw.out.block k hk))⟩
  have hSg := hiddenI ((((hSw5.setFar (Nat.le_refl _) 0 (.int .i64 yc)).setFar (Nat.le_refl _) 1 (.slice ya ym yk)).setFar (Nat.le_refl _) 2 (.int .i64 yp)).setFar (Nat.le_refl _) 3 (.int .i64 yr))
  have hyf : Hid (((((w5.setCell ⟨w.heap.size, 0, none⟩ (.int .i64 yc)).setCell ⟨w.heap.size, 1, none⟩ (.slice ya ym yk)).setCell ⟨w.heap.size, 2, none⟩ (.int .i64 yp)).setCell ⟨w.heap.size, 3, none⟩ (.int .i64 yr)).ownsRow B 3 1 (.slice ya ym yk) yl.length (ints yl)) := own_save2 hy0.out.1 hSg.out hy0.out.2.1 hy0.out.2.2
  replace hp5 := hiddenI hp5
  replace hu5 := hiddenI hu5
  clear hX6 hX7 hX8 hX5 hY5 hH5 hB5 hS5 hBw5 hSw5 hsk hw4 hP hBf hbk hX4 hY4
  go_wp2
  replace hfin := hfin.out
  refine bodyPost_ret (v := .tuple #[.agg #[.int .i64 yc, .slice ya ym yk, .int .i64 yp, .int .i64 yr], .bool true]) ?_ rfl ⟨rfl, hyf.out, L', hHf.out, (hp5.out.cons _).trans hpm.out, hu5.out, hBg.out, hSg.out⟩
  rw [results_cell_tmp rfl]
  have hv := run_loadVar_row _ _ _ 24 _ _ _ hfin Try.underlying24 rfl (by kernel_rfl)
  simp [asAddr, hv, Result.andThen]
end Go.Proofs.Ytapdkdfgjjdbkaa
