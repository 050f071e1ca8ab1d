/-
  THE OPERATIONS THAT CHANGE MEMORY: a map's next entry. No program is named here.
-/
import Derived.Test.YtnmjhbnadfjapaaXHeavy5
namespace GoX
open Go

theorem run_next_map {P : Program} {w : World} {lb mb since last clock : Nat} {seen : List Nat} {xs : List MapEntry} (hi : w.heap[lb]? = some (.mapIter (some mb) since seen.toArray last))
    (hm : w.heap[mb]? = some (.map xs.toArray clock)) (hc : (!nilB seen && !nilB xs && (xs.all fun e => decide (e.born ≥ last))) = false) (t : TypeId) :
    (xs.filter (fun e => !seen.contains e.born) = [] → (Instr.next (.pointer (some ⟨lb, 0, none⟩)) false t).run P w = .ok (.tuple #[.bool false]) w) ∧
    (xs.filter (fun e => !seen.contains e.born) ≠ [] → (∀ x ∈ xs.filter (fun e => !seen.contains e.born), x.born < since) →
      ∃ (i : Nat) (x : MapEntry) (w' : World), (xs.filter (fun e => !seen.contains e.born))[i]? = some x ∧ w'.heap = w.heap.setIfInBounds lb (.mapIter (some mb) since (seen ++ [x.born]).toArray clock) ∧ w'.os = w.os ∧ w'.output = w.output ∧
        (Instr.next (.pointer (some ⟨lb, 0, none⟩)) false t).run P w = .ok (.tuple #[.bool true, x.key, x.val]) w') := by
  have hc' : (!seen.toArray.isEmpty && !xs.toArray.isEmpty && (xs.toArray.all fun e => decide (e.born ≥ last))) = false := by
    rw [← hc]
    congr 1
    · congr 1
      · cases seen <;> simp [nilB]
      · cases xs <;> simp [nilB]
    · simp
  have hpre : ∀ (f : Array (Option MapEntry) → Sem Value), (Instr.next (.pointer (some ⟨lb, 0, none⟩)) false t).run P w = _ := fun _ => rfl
  have hleft : xs.toArray.filter (fun e => !seen.toArray.contains e.born) = (xs.filter (fun e => !seen.contains e.born)).toArray := by simp
  constructor
  · intro hnil
    rw [hnil] at hleft
    simp only [Instr.next, Sem.run_bind, run_getObj hi (by simp), run_getObj hm (by simp), Result.andThen_ok, hc', Bool.false_eq_true, if_false, hleft]
    simp [Question.forced]
  · intro hne hold
    generalize hl : xs.filter (fun e => !seen.contains e.born) = l at *
    have hof : l.toArray.filter (fun e => decide (e.born < since)) = l.toArray := by
      have : l.filter (fun e => decide (e.born < since)) = l := List.filter_eq_self.2 (fun x hx => by simpa using hold x hx)
      rw [List.filter_toArray, this]
    have hnf : l.toArray.filter (fun e => decide (e.born ≥ since)) = #[] := by
      have : l.filter (fun e => decide (e.born ≥ since)) = [] := List.filter_eq_nil_iff.2 (fun x hx => by have := hold x hx; simp; omega)
      rw [List.filter_toArray, this]
    have hemp : l.toArray.isEmpty = false := by cases l <;> simp at hne ⊢
    have hpos : 0 < l.length := List.length_pos_iff.2 hne
    have hcand : (if l.toArray.isEmpty = true then #[none] else #[]) ++ Array.map some (l.toArray ++ #[]) = (l.map some).toArray := by
      rw [hemp]; simp
    -- the draw
    have hdraw : ∃ i w1, (choose (.mapNext (l.map some).toArray.size)).run P w = .ok i w1 ∧ i < l.length ∧ w1.heap = w.heap ∧ w1.os = w.os ∧ w1.output = w.output := by
      simp only [run_choose]
      by_cases hf : (Question.mapNext (l.map some).toArray.size).forced = true
      · rw [if_pos hf]; exact ⟨0, w, rfl, hpos, rfl, rfl, rfl⟩
      · rw [if_neg hf]
        refine ⟨_, _, rfl, ?_, rfl, rfl, rfl⟩
        simp only [Question.cut, List.size_toArray, List.length_map]
        exact Nat.mod_lt _ hpos
    obtain ⟨i, w1, hd, hi1, h1, h2, h3⟩ := hdraw
    have hx : l[i]? = some l[i] := List.getElem?_eq_getElem hi1
    refine ⟨i, l[i], { w1 with heap := w1.heap.setIfInBounds lb (.mapIter (some mb) since (seen ++ [l[i].born]).toArray clock) }, hx, by rw [h1], h2, h3, ?_⟩
    have hi' : w1.heap[lb]? = some (.mapIter (some mb) since seen.toArray last) := by rw [h1]; exact hi
    have hget : (l.map some).toArray[i]? = some (some l[i]) := by simp [hi1]
    simp only [Instr.next, Sem.run_bind, run_getObj hi (by simp), run_getObj hm (by simp), Result.andThen_ok, hc', Bool.false_eq_true, if_false, hleft, hof, hnf, hcand, hd, hget,
      run_setObj hi' (by simp), Sem.run_pure]
    simp

theorem run_value' {P : Program} {s : Sem Value} {x : Value} {w w' : World} (h : s.run P w = .ok x w') : (do pure (Next.value (← s)) : Sem Next).run P w = .ok (.value x) w' := by
  simp [h]

theorem concEs_nil_iff {φ : Phi} {l : List Ent} {xs : List MapEntry} (h : concEs φ l = some xs) : nilB xs = nilB l := by
  cases l with
  | nil => cases h; rfl
  | cons e l => obtain ⟨_, _, _, _, _, _, rfl⟩ := concEs_cons h; rfl

theorem hNextM_all {K : Tab} (det : Bool) (it : Operand) : CH.All K det (.next it false) (hNextM K det it) := fun T H k h => by
  obtain ⟨v, hv, h⟩ := ce_ok h
  match v, h with
  | .ptr (some (r, 0)), h =>
    obtain ⟨blk, hb, h⟩ := getK_ok h
    match blk, h with
    | .mapIter none since seen last, h =>
      have hs : SimH K T H.get H.next (.next it false) (.tup [.bool false]) H.get H.next := by
        refine ⟨Nat.le_refl _, fun φ a w hor hg hw hfr => ?_⟩
        obtain ⟨L, hL, hp⟩ := conc_ptr (hor it (by simp [Op.operands]) _ hv)
        obtain ⟨o, ho, rfl, h0⟩ := hw.real r _ L hb hL
        refine ⟨φ, .tuple #[.bool false], w, Goes.refl hw, rfl, fun op hop next Q hq => wp_value ?_ hq⟩
        simp only [execOp, hop]
        simp [Instr.next, hp, h0, run_getObj ho (by simp)]
      exact ⟨fun u I => u = .tup [.bool false] ∧ I = H, fun u I e => by rw [e.1, e.2]; exact h, SimH.some hs, fun _ => ⟨_, H, hs, h⟩⟩
    | .mapIter (some m) since seen last, h =>
      obtain ⟨blk, hm, h⟩ := getK_ok h
      match blk, h with
      | .map es clock, h =>
        simp only at h
        cases hc : (!nilB seen && !nilB es && allFrom last es) with
        | true => rw [hc, cond_true] at h; cases h
        | false =>
          rw [hc, cond_false] at h
          have hreal : ∀ (φ : Phi) (a : Act) (w : World), OR K.ng φ T a (Op.next it false).operands.toList → WR φ H.get w →
              ∃ L M xs, φ r = some L ∧ φ m = some M ∧ a.eval it = .pointer (some ⟨L.b, 0, none⟩) ∧ w.heap[L.b]? = some (.mapIter (some M.b) since seen.toArray last) ∧ L.o = 0 ∧
                concEs φ es = some xs ∧ w.heap[M.b]? = some (.map xs.toArray clock) ∧ (!nilB seen && !nilB xs && (xs.all fun e => decide (e.born ≥ last))) = false := by
            intro φ a w hor hw
            obtain ⟨L, hL, hp⟩ := conc_ptr (hor it (by simp [Op.operands]) _ hv)
            obtain ⟨o, ho, M, hM, rfl, h0⟩ := hw.real r _ L hb hL
            obtain ⟨xs, hxs, hheap⟩ := map_real hw hm hM
            exact ⟨L, M, xs, hL, hM, by rw [hp, h0], ho, h0, hxs, hheap, by rw [concEs_nil_iff hxs, allFrom_conc last hxs]; exact hc⟩
          cases hu : unseen seen es with
          | nil =>
            rw [hu] at h
            have hs : SimH K T H.get H.next (.next it false) (.tup [.bool false]) H.get H.next := by
              refine ⟨Nat.le_refl _, fun φ a w hor hg hw hfr => ?_⟩
              obtain ⟨L, M, xs, hL, hM, hp, hi, h0, hxs, hheap, hcc⟩ := hreal φ a w hor hw
              have hun := unseen_conc seen hxs
              rw [hu] at hun
              refine ⟨φ, .tuple #[.bool false], w, Goes.refl hw, rfl, fun op hop next Q hq => wp_value ?_ hq⟩
              have hrun := (run_next_map (P := K.P) hi hheap hcc op.type).1 (by have := Option.some.inj hun; exact this.symm)
              simp only [execOp, hop, hp]
              exact run_value hrun
            exact ⟨fun u I => u = .tup [.bool false] ∧ I = H, fun u I e => by rw [e.1, e.2]; exact h, SimH.some hs, fun _ => ⟨_, H, hs, h⟩⟩
          | cons e l =>
            rw [hu] at h
            obtain ⟨hcond, h⟩ := cond_true_of h
            simp only [Bool.and_eq_true] at hcond
            obtain ⟨hold, hdet⟩ := hcond
            have hold := oldAll_mem hold
            have hall := goAll_mem h
            -- whichever comes
            have hone : ∀ (φ : Phi) (a : Act) (w : World), OR K.ng φ T a (Op.next it false).operands.toList → WR φ H.get w →
                ∃ e' ∈ e :: l, ∃ x w', Goes φ H.get H.next w φ (upd H.get r (some (.mapIter (some m) since (seen ++ [e'.born]) clock))) H.next w' ∧ conc φ (.tup [.bool true, e'.key, e'.val]) = some x ∧
                  ∀ o : Oper, o.op = .next it false → ∀ (next : Act → World → Prop) (Q : Exit → Act → World → Prop), next (a.put o.dst x) w' → o.wp K.P a w next Q := by
              intro φ a w hor hw
              obtain ⟨L, M, xs, hL, hM, hp, hi, h0, hxs, hheap, hcc⟩ := hreal φ a w hor hw
              have hun := unseen_conc seen hxs
              rw [hu] at hun
              have hne : xs.filter (fun e => !seen.contains e.born) ≠ [] := by
                obtain ⟨_, _, _, _, _, _, hh⟩ := concEs_cons hun
                rw [hh]; simp
              have hex : ∀ t : TypeId, ∃ (i : Nat) (x : MapEntry) (w' : World), (xs.filter (fun e => !seen.contains e.born))[i]? = some x ∧ w'.heap = w.heap.setIfInBounds L.b (.mapIter (some M.b) since (seen ++ [x.born]).toArray clock) ∧
                  w'.os = w.os ∧ w'.output = w.output ∧ (Instr.next (.pointer (some ⟨L.b, 0, none⟩)) false t).run K.P w = .ok (.tuple #[.bool true, x.key, x.val]) w' :=
                fun t => (run_next_map (P := K.P) hi hheap hcc t).2 hne (born_conc hun hold)
              obtain ⟨i, x, w', hx, hh, hos, hout, hrun⟩ := hex 0
              have hlt := (List.getElem?_eq_some_iff.1 hx).1
              have hlen := concEs_length hun
              have hi2 : i < (e :: l).length := by omega
              obtain ⟨k0, v0, hx0, hk0, hv0⟩ := concEs_get i hun (List.getElem?_eq_getElem hi2)
              rw [hx] at hx0
              injection hx0 with hx0
              subst hx0
              refine ⟨(e :: l)[i], List.getElem_mem _, _, w', ?_, conc_tup_mk (concs_cons_mk rfl (concs_cons_mk hk0 (concs_cons_mk hv0 rfl))), fun op hop next Q hq => wp_value ?_ hq⟩
              · exact goes_set H.next hw hb rfl hL (obj := .mapIter (some M.b) since (seen ++ [(e :: l)[i].born]).toArray clock) ⟨M, hM, rfl, h0⟩ hh hos hout
              · simp only [execOp, hop, hp]
                exact run_value' hrun
            refine ⟨fun u I => ∃ e' ∈ e :: l, u = .tup [.bool true, e'.key, e'.val] ∧ I.get = upd H.get r (some (.mapIter (some m) since (seen ++ [e'.born]) clock)) ∧ I.next = H.next ∧ k u I = true,
              fun u I hI => hI.choose_spec.2.2.2.2, ⟨?_, ?_, fun φ a w hor hg hw hfr => ?_⟩, fun hd => ?_⟩
            · obtain ⟨H', h1, h2, h3⟩ := hall e (by simp)
              exact ⟨_, H', e, by simp, rfl, h1, h2, h3⟩
            · rintro u I ⟨e', _, _, _, hn, _⟩
              rw [hn]; exact Nat.le_refl _
            · obtain ⟨e', he', x, w', hgo, hx, hwp⟩ := hone φ a w hor hw
              obtain ⟨H', h1, h2, h3⟩ := hall e' he'
              exact ⟨_, H', φ, x, w', ⟨e', he', rfl, h1, h2, h3⟩, by rw [h1, h2]; exact hgo, hx, hwp⟩
            · subst hd
              have hl : l = [] := by
                cases l with
                | nil => rfl
                | cons y l => cases hdet
              subst hl
              obtain ⟨H', h1, h2, h3⟩ := hall e (by simp)
              refine ⟨_, H', ⟨by rw [h2]; exact Nat.le_refl _, fun φ a w hor hg hw hfr => ?_⟩, h3⟩
              obtain ⟨e', he', x, w', hgo, hx, hwp⟩ := hone φ a w hor hw
              have : e' = e := by simpa using he'
              subst this
              exact ⟨φ, x, w', by rw [h1, h2]; exact hgo, hx, hwp⟩

end GoX
