/-
  ALL LABELS AND NAMES OF A GRAPH, each once, rising: the reference's, by contract.
-/
import Derived.Test.YtjgddkbpfpgaoacGreatDoorLabelsN
import Derived.Test.YtjgddkbpfpgaoacGreatDoorPutT
namespace Go.Proofs.YtjgddkbpfpgaoacGreatDoor
open Go.ChangeShapes Go.WideShapes Go.ChangeAt Go.RowKit

/-- The list so far: whose members these are. -/
structure TL (w x : World) (g og cap : Nat) (L own : List ByteArray) : Prop where
  sl : Sl x (.slice (some ⟨g, og, none⟩) L.length cap) (tx L)
  strict : StrictT L
  mem : ∀ y, y ∈ L ↔ y ∈ own
  len : L.length ≤ own.length
  below : Below w.heap.size w x
theorem TL.put {w x z : World} {g og cap g' og' cap' : Nat} {L L' own : List ByteArray} {s : ByteArray} (h : TL w x g og cap L own) (hs : Sl z (.slice (some ⟨g', og', none⟩) L'.length cap') (tx L')) (hp : PutT s L L') (hB : Below x.heap.size x z) : TL w z g' og' cap' L' (own ++ [s]) := by
  refine ⟨hs, hp.strict h.strict, fun y => ?_, ?_, h.below.trans (hB.mono h.below.size)⟩
  · rw [hp.mem, h.mem, List.mem_append, List.mem_singleton]
    exact Or.comm
  · have h1 := hp.len
    have h2 := h.len
    simp only [List.length_append, List.length_cons, List.length_nil]
    omega
theorem tl_made (w : World) (o : Obj) : TL w ((w.alloc o).alloc (.cells #[] 9)) (w.heap.size + 1) 0 0 [] [] :=
  ⟨⟨_, 0, rfl, Nat.le_refl _, fun e => (by cases e), fun _ e => (by cases e; rfl), .inl rfl⟩, .nil, fun _ => Iff.rfl, Nat.le_refl _, ((Below.refl _ _).alloc (Nat.le_refl _) _).alloc (by simp) _⟩
set_option maxRecDepth 100000 in
set_option maxHeartbeats 3200000 in
theorem rlabels_c (es : List Eg) (na : Option Addr) (nn nc : Nat) (a : Option Addr) (c : Nat) (w : World) (he : RowAt w a (edgeR.flat es)) (hl : es.length ≤ 90000) :
    Calls Tryz.prog 13 #[.agg #[.slice na nn nc, .slice a es.length c]] w fun e w' => ∃ (g og cap : Nat) (L : List ByteArray), e = .returned (.slice (some ⟨g, og, none⟩) (List.length L) cap) ∧ TL w w' g og cap L (es.map Eg.l) := by
  obtain ⟨N, hN⟩ : ∃ N, N = es.length := ⟨_, rfl⟩
  rw [← hN] at hl ⊢
  replace hN := hidden hN
  replace he := hidden he
  have hT0 := hidden (tl_made w (.cells #[.slice na nn nc, .slice a N c] 25))
  have hX := heap_alloc_old (w.alloc (.cells #[.slice na nn nc, .slice a N c] 25)) (.cells #[] 9) (by simp) |>.trans (heap_alloc_new w (.cells #[.slice na nn nc, .slice a N c] 25))
  obtain ⟨⟨x0, x1⟩, -⟩ := box2f hX
  replace hX := hidden hX
  go_enter Tryz.func13, Tryz.ntmps13
  go_wp2
  clear x0 x1
  go_loopw [3, 4] (fun u i x => ∃ (g og cap k : Nat) (L : List ByteArray), u = .slice (some ⟨g, og, none⟩) L.length cap ∧ i = .int .i64 k ∧ k ≤ N ∧ Hid (TL w x g og cap L ((es.take k).map Eg.l)) ∧ Hid (x.heap[w.heap.size]? = some (.cells #[.slice na nn nc, .slice a N c] 25))) (fun _ i _ => N - (intOf i).toNat)
  case atStart => exact ⟨_, _, _, 0, _, rfl, rfl, Nat.zero_le _, hT0, hX⟩
  case round =>
    clear hT0 hX
    obtain ⟨g, og, cap, k, L, rfl, rfl, hk, hT, hX⟩ := hrel
    obtain ⟨⟨x0, x1⟩, -⟩ := box2f hX.out
    by_cases hlt : k < N
    · have hlt' : (k : Int) < (N : Int) := by omega
      have hlE : k < es.length := by rw [← hN.out]; exact hlt
      obtain ⟨b5, o5, rfl, hb5, -, -, e2, -⟩ := edge_at (he.out.below hT.out.below) hlE
      have htk : Hid ((es.take (k + 1)).map Eg.l = (es.take k).map Eg.l ++ [(es.getD k Eg.none).l]) := by
        show _ = _
        rw [take_snocR es Eg.none k hlE, List.map_append]; rfl
      generalize (es.getD k Eg.none).l = s at *
      have hput := rputT_c s L g og cap wr hT.out.sl (by have := hT.out.len; rw [List.length_map, List.length_take] at this; omega)
      go_wp2_with fail
      refine hput.mono ?_
      rintro e z ⟨g', og', cap', L', rfl, hS, hP, hBz⟩
      have hT2 := hT.out.put hS hP hBz
      rw [← htk.out] at hT2
      replace hT2 := hidden hT2
      have hX2 := hidden (box_below hX.out hBz)
      clear hT hX hput hS hP hBz x0 x1
      go_wp2
      go_roundw
      case rel => exact ⟨g', og', cap', k + 1, L', rfl, by go_num, by omega, hT2, hX2⟩
      case measure => simp [intOf]; omega
    · have hlt' : ¬ (k : Int) < (N : Int) := by omega
      have hT2 : Hid (TL w wr g og cap L (es.map Eg.l)) := by
        have h := hT.out
        rw [List.take_of_length_le (l := es) (i := k) (by rw [← hN.out]; omega)] at h
        exact h
      clear hT
      go_wp2
      go_ret
      exact ⟨g, og, cap, L, rfl, hT2.out⟩
set_option maxRecDepth 100000 in
set_option maxHeartbeats 3200000 in
theorem rkinds_c (ns : List Nd) (a : Option Addr) (c : Nat) (ea : Option Addr) (en ec : Nat) (w : World) (he : HoldsN w (.slice a ns.length c) ns) (hl : ns.length ≤ 90000) :
    Calls Tryz.prog 15 #[.agg #[.slice a ns.length c, .slice ea en ec]] w fun e w' => ∃ (g og cap : Nat) (L : List ByteArray), e = .returned (.slice (some ⟨g, og, none⟩) (List.length L) cap) ∧ TL w w' g og cap L (ns.map Nd.l) := by
  obtain ⟨N, hN⟩ : ∃ N, N = ns.length := ⟨_, rfl⟩
  rw [← hN] at hl he ⊢
  replace hN := hidden hN
  replace he := hidden he
  have hT0 := hidden (tl_made w (.cells #[.slice a N c, .slice ea en ec] 25))
  have hX := heap_alloc_old (w.alloc (.cells #[.slice a N c, .slice ea en ec] 25)) (.cells #[] 9) (by simp) |>.trans (heap_alloc_new w (.cells #[.slice a N c, .slice ea en ec] 25))
  obtain ⟨⟨x0, x1⟩, -⟩ := box2f hX
  replace hX := hidden hX
  go_enter Tryz.func15, Tryz.ntmps15
  go_wp2
  clear x0 x1
  go_loopw [3, 4] (fun u i x => ∃ (g og cap k : Nat) (L : List ByteArray), u = .slice (some ⟨g, og, none⟩) L.length cap ∧ i = .int .i64 k ∧ k ≤ N ∧ Hid (TL w x g og cap L ((ns.take k).map Nd.l)) ∧ Hid (x.heap[w.heap.size]? = some (.cells #[.slice a N c, .slice ea en ec] 25))) (fun _ i _ => N - (intOf i).toNat)
  case atStart => exact ⟨_, _, _, 0, _, rfl, rfl, Nat.zero_le _, hT0, hX⟩
  case round =>
    clear hT0 hX
    obtain ⟨g, og, cap, k, L, rfl, rfl, hk, hT, hX⟩ := hrel
    obtain ⟨⟨x0, x1⟩, -⟩ := box2f hX.out
    by_cases hlt : k < N
    · have hlt' : (k : Int) < (N : Int) := by omega
      have hlE : k < ns.length := by rw [← hN.out]; exact hlt
      obtain ⟨b5, o5, pa, pn, pc, rfl, hb5, e0, -, -⟩ := node_at (he.out.calm (.of_below hT.out.below)) hlE
      have htk : Hid ((ns.take (k + 1)).map Nd.l = (ns.take k).map Nd.l ++ [(ns.getD k Nd.none).l]) := by
        show _ = _
        rw [take_snocR ns Nd.none k hlE, List.map_append]; rfl
      generalize (ns.getD k Nd.none).l = s at *
      have hput := rputT_c s L g og cap wr hT.out.sl (by have := hT.out.len; rw [List.length_map, List.length_take] at this; omega)
      go_wp2_with fail
      refine hput.mono ?_
      rintro e z ⟨g', og', cap', L', rfl, hS, hP, hBz⟩
      have hT2 := hT.out.put hS hP hBz
      rw [← htk.out] at hT2
      replace hT2 := hidden hT2
      have hX2 := hidden (box_below hX.out hBz)
      clear hT hX hput hS hP hBz x0 x1
      go_wp2
      go_roundw
      case rel => exact ⟨g', og', cap', k + 1, L', rfl, by go_num, by omega, hT2, hX2⟩
      case measure => simp [intOf]; omega
    · have hlt' : ¬ (k : Int) < (N : Int) := by omega
      have hT2 : Hid (TL w wr g og cap L (ns.map Nd.l)) := by
        have h := hT.out
        rw [List.take_of_length_le (l := ns) (i := k) (by rw [← hN.out]; omega)] at h
        exact h
      clear hT
      go_wp2
      go_ret
      exact ⟨g, og, cap, L, rfl, hT2.out⟩
end Go.Proofs.YtjgddkbpfpgaoacGreatDoor
/-
  ALL NAMES OF A GRAPH's PROPERTIES, each once, rising: the reference's, by contract.
-/
namespace Go.Proofs.YtjgddkbpfpgaoacGreatDoor
open Go.ChangeShapes Go.WideShapes Go.ChangeAt Go.RowKit

set_option maxRecDepth 100000 in
set_option maxHeartbeats 3200000 in
theorem rnames_c (ns : List Nd) (a : Option Addr) (c : Nat) (ea : Option Addr) (en ec : Nat) (w : World) (he : HoldsN w (.slice a ns.length c) ns) (hl : ns.length ≤ 90000) (hm : (namesL ns).length ≤ 90000) :
    Calls Tryz.prog 17 #[.agg #[.slice a ns.length c, .slice ea en ec]] w fun e w' => ∃ (g og cap : Nat) (L : List ByteArray), e = .returned (.slice (some ⟨g, og, none⟩) (List.length L) cap) ∧ TL w w' g og cap L (namesL ns) := by
  obtain ⟨N, hN⟩ : ∃ N, N = ns.length := ⟨_, rfl⟩
  rw [← hN] at hl he ⊢
  replace hN := hidden hN
  replace he := hidden he
  replace hm := hidden hm
  have hT0 := hidden (tl_made w (.cells #[.slice a N c, .slice ea en ec] 25))
  have hX := heap_alloc_old (w.alloc (.cells #[.slice a N c, .slice ea en ec] 25)) (.cells #[] 9) (by simp) |>.trans (heap_alloc_new w (.cells #[.slice a N c, .slice ea en ec] 25))
  obtain ⟨⟨x0, x1⟩, -⟩ := box2f hX
  replace hX := hidden hX
  go_enter Tryz.func17, Tryz.ntmps17
  go_wp2
  clear x0 x1
  go_loopw [3, 4] (fun u i x => ∃ (g og cap k : Nat) (L : List ByteArray), u = .slice (some ⟨g, og, none⟩) L.length cap ∧ i = .int .i64 k ∧ k ≤ N ∧ Hid (TL w x g og cap L (namesL (ns.take k))) ∧ Hid (x.heap[w.heap.size]? = some (.cells #[.slice a N c, .slice ea en ec] 25))) (fun _ i _ => N - (intOf i).toNat)
  case atStart => exact ⟨_, _, _, 0, _, rfl, rfl, Nat.zero_le _, hT0, hX⟩
  case round =>
    clear hT0 hX
    obtain ⟨g, og, cap, k, L, rfl, rfl, hk, hT, hX⟩ := hrel
    obtain ⟨⟨x0, x1⟩, -⟩ := box2f hX.out
    by_cases hlt : k < N
    · have hlt' : (k : Int) < (N : Int) := by omega
      have hlE : k < ns.length := by rw [← hN.out]; exact hlt
      obtain ⟨b5, o5, pa, pn, pc, rfl, hb5, -, e1, hps⟩ := node_at he.out hlE
      have htk : Hid (namesL (ns.take (k + 1)) = namesL (ns.take k) ++ (ns.getD k Nd.none).ps.map Pp.s) := by
        show _ = _
        rw [take_snocR ns Nd.none k hlE, namesL_app, namesL_one]
      have hall : Hid (namesL ns = namesL (ns.take (k + 1)) ++ namesL (ns.drop (k + 1))) := by
        show _ = _
        rw [← namesL_app, List.take_append_drop]
      obtain ⟨pa', pc', hpe, hpr⟩ := hps
      simp only [Value.slice.injEq] at hpe
      obtain ⟨rfl, rfl, rfl⟩ := hpe
      generalize (ns.getD k Nd.none).ps = ps at *
      have hcnt : Hid (∀ j, j ≤ ps.length → (namesL (ns.take k)).length + j ≤ 90000) := fun j hj => by
        have h1 := hm.out
        rw [hall.out, htk.out] at h1
        simp only [List.length_append, List.length_map] at h1
        omega
      have hM1 : Hid (TL w wr g og cap L (namesL (ns.take k) ++ (ps.take 0).map Pp.s)) := by
        show TL ..
        rw [List.take_zero, List.map_nil, List.append_nil]
        exact hT.out
      obtain ⟨M, hMl⟩ : ∃ M, M = ps.length := ⟨_, rfl⟩
      rw [← hMl] at e1
      replace hMl := hidden hMl
      replace e1 := hidden e1
      replace hpr := hidden hpr
      have hM6 : M ≤ 90000 := by have h1 := hcnt.out M (by rw [← hMl.out]; exact Nat.le_refl _); omega
      clear hT
      go_wp2
      clear x0 x1
      go_loopw [3, 5] (fun u i x => ∃ (g og cap j : Nat) (L : List ByteArray), u = .slice (some ⟨g, og, none⟩) L.length cap ∧ i = .int .i64 j ∧ j ≤ M ∧ Hid (TL w x g og cap L (namesL (ns.take k) ++ (ps.take j).map Pp.s)) ∧ Hid (x.heap[w.heap.size]? = some (.cells #[.slice (some ⟨b5, o5, none⟩) N c, .slice ea en ec] 25))) (fun _ i _ => M - (intOf i).toNat)
      case atStart => exact ⟨g, og, cap, 0, L, rfl, rfl, Nat.zero_le _, hM1, hX⟩
      case round =>
        clear hM1 hX
        obtain ⟨g, og, cap, j, L, rfl, rfl, hj, hT, hX⟩ := hrel
        obtain ⟨⟨x0, x1⟩, -⟩ := box2f hX.out
        have f1 := (hT.out.below.cell (p := ⟨b5, o5 + k * 2 + 1, none⟩) hb5).trans e1.out
        by_cases hlt2 : j < M
        · have hlt2' : (j : Int) < (M : Int) := by omega
          have hlP : j < ps.length := by rw [← hMl.out]; exact hlt2
          obtain ⟨b6, o6, rfl, hb6, f0, -⟩ := prop_at (hpr.out.below hT.out.below) hlP
          have htj : Hid (namesL (ns.take k) ++ (ps.take (j + 1)).map Pp.s = (namesL (ns.take k) ++ (ps.take j).map Pp.s) ++ [(ps.getD j Pp.none).s]) := by
            show _ = _
            rw [take_snocR ps Pp.none j hlP, List.map_append, List.append_assoc]; rfl
          generalize (ps.getD j Pp.none).s = s at *
          have hput := rputT_c s L g og cap wr hT.out.sl (by
            have h1 := hT.out.len
            have h2 := hcnt.out j (by rw [← hMl.out]; exact hj)
            simp only [List.length_append, List.length_map, List.length_take] at h1
            omega)
          go_wp2_with fail
          refine hput.mono ?_
          rintro e z ⟨g', og', cap', L', rfl, hS, hP, hBz⟩
          have hT2 := hT.out.put hS hP hBz
          rw [← htj.out] at hT2
          replace hT2 := hidden hT2
          have hX2 := hidden (box_below hX.out hBz)
          clear hT hX hput hS hP hBz x0 x1 f0 f1
          go_wp2
          go_roundw
          case rel => exact ⟨g', og', cap', j + 1, L', rfl, by go_num, by omega, hT2, hX2⟩
          case measure => simp [intOf]; omega
        · have hlt2' : ¬ (j : Int) < (M : Int) := by omega
          have hT2 : Hid (TL w wr g og cap L (namesL (ns.take (k + 1)))) := by
            have h := hT.out
            rw [List.take_of_length_le (l := ps) (i := j) (by rw [← hMl.out]; omega)] at h
            show TL ..
            rw [htk.out]
            exact h
          clear hT htk hall hcnt
          go_wp2
          go_roundw
          case rel => exact ⟨g, og, cap, k + 1, L, rfl, by go_num, by omega, hT2, hX⟩
          case measure => simp [intOf]; omega
    · have hlt' : ¬ (k : Int) < (N : Int) := by omega
      have hT2 : Hid (TL w wr g og cap L (namesL ns)) := by
        have h := hT.out
        rw [List.take_of_length_le (l := ns) (i := k) (by rw [← hN.out]; omega)] at h
        exact h
      clear hT
      go_wp2
      go_ret
      exact ⟨g, og, cap, L, rfl, hT2.out⟩
end Go.Proofs.YtjgddkbpfpgaoacGreatDoor
