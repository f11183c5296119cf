/- The law's step: New, and where there is no machine. -/
import Derived.Test.YtfcepnhknmbaaaaGreatLawBegins
namespace Go.Proofs.YtfcepnhknmbaaaaGreat
open Go.RowKit Go.Deep

theorem mcCells_set : ∀ {D : List Mc} {i : Nat} {x y : Mc}, D[i]? = some x → y.mb = x.mb → y.rb = x.rb → mcCells (D.set i y) = mcCells D
  | z :: D, 0, x, y, h, e1, e2 => by
    simp only [List.getElem?_cons_zero, Option.some.injEq] at h
    subst h
    simp only [List.set_cons_zero, mcCells, e1, e2]
  | z :: D, i + 1, x, y, h, e1, e2 => by
    rw [List.getElem?_cons_succ] at h
    simp only [List.set_cons_succ, mcCells, mcCells_set h e1 e2]

theorem Plays.turn {w w' : World} {wb : Nat} {gv S : Value} {D : List Mc} {c i : Nat} {own' : Nat → Prop} (h : Plays w wb gv S D c) (hi : i < D.length) (hd : DuoAt w' D[i].mb D[i].rb own' (c + 1)) (l : Left w w' D[i].own own') :
    ∃ D', Plays w' wb gv S D' (c + 1) ∧ Left w w' (pOwn wb gv D) (pOwn wb gv D') := by
  have hm : D[i] ∈ D := List.getElem_mem hi
  have hdis : ∀ j, (hj : j < D.length) → j ≠ i → ∀ b, D[j].own b → ¬ D[i].own b := fun j hj hne b q1 q2 => by
    have hp := List.pairwise_iff_getElem.1 h.dis
    rcases Nat.lt_or_ge j i with q | q
    · exact hp j i hj hi q b q1 q2
    · exact hp i j hi hj (by omega) b q2 q1
  have hnew : ∀ b, own' b → b ≠ wb ∧ gv.ownBlock ≠ some b := fun b hb => by
    rcases l.ext b hb with q | q
    · exact h.n1 _ hm b q
    · refine ⟨by have := h.lt; omega, fun e => ?_⟩
      have := (h.sl.lt b e).2
      omega
  have hcross : ∀ j, (hj : j < D.length) → j ≠ i → ∀ b, D[j].own b → ¬ own' b := fun j hj hne b q1 q2 => by
    rcases l.ext b q2 with q | q
    · exact hdis j hj hne b q1 q
    · have := (h.duo _ (List.getElem_mem hj)).own_lt q1
      omega
  obtain ⟨t, r⟩ := h.row
  refine ⟨D.set i ⟨D[i].mb, D[i].rb, own'⟩, ⟨⟨t, l.only.row r (fun q => (h.n1 _ hm wb q).1 rfl)⟩, ?_, fun y hy => ?_, fun y hy b hb => ?_, h.n2, ?_, by rw [List.length_set]; exact h.le⟩, ⟨?_, fun b hb => ?_⟩⟩
  · rw [List.length_set, mcCells_set (y := ⟨D[i].mb, D[i].rb, own'⟩) (List.getElem?_eq_getElem hi) rfl rfl]
    exact owns_only h.sl l.only (fun b e q => (h.n1 _ hm b q).2 e)
  · obtain ⟨j, hj, rfl⟩ := List.mem_iff_getElem.1 hy
    rw [List.getElem_set]
    split
    · exact hd
    · rename_i hne
      rw [List.length_set] at hj
      exact ((h.duo _ (List.getElem_mem hj)).only l.only (hdis j hj (fun e => hne e.symm))).mono (Nat.le_succ c)
  · obtain ⟨j, hj, rfl⟩ := List.mem_iff_getElem.1 hy
    rw [List.getElem_set] at hb
    split at hb
    · exact hnew b hb
    · rw [List.length_set] at hj
      exact h.n1 _ (List.getElem_mem hj) b hb
  · rw [List.pairwise_iff_getElem]
    intro j k hj hk hjk b
    rw [List.length_set] at hj hk
    rw [List.getElem_set, List.getElem_set]
    split
    · rename_i e
      subst e
      rw [if_neg (by omega)]
      exact fun q1 q2 => hcross k hk (by omega) b q2 q1
    · rename_i e
      split
      · rename_i e2
        subst e2
        exact fun q1 q2 => hcross j hj (by omega) b q1 q2
      · exact List.pairwise_iff_getElem.1 h.dis j k hj hk hjk b
  · exact l.only.mono (fun k _ q => Or.inr (Or.inr ⟨_, hm, q⟩))
  · rcases hb with q | q | ⟨y, hy, q⟩
    · exact Or.inl (Or.inl q)
    · exact Or.inl (Or.inr (Or.inl q))
    · obtain ⟨j, hj, rfl⟩ := List.mem_iff_getElem.1 hy
      rw [List.getElem_set] at q
      split at q
      · rcases l.ext b q with q | q
        · exact Or.inl (Or.inr (Or.inr ⟨_, hm, q⟩))
        · exact Or.inr q
      · rw [List.length_set] at hj
        exact Or.inl (Or.inr (Or.inr ⟨_, List.getElem_mem hj, q⟩))

theorem Left.after {w w0 w1 : World} {own own' : Nat → Prop} (o : Only Nob w w0) (l : Left w0 w1 own own') : Left w w1 own own' :=
  ⟨(o.of_nob (S := own)).trans l.only, fun b hb => (l.ext b hb).imp id (fun q => Nat.le_trans o.size q)⟩

section
variable (w : World) (wb : Nat) (gv S0 : Value) (D : List Mc) (c : Nat) (h : Plays w wb gv S0 D c) (on a b cc d : Int) (W : Bool) (S : Value)

set_option maxRecDepth 100000 in
set_option maxHeartbeats 2000000 in
include h in
theorem stepNew_any :
    Calls Tryz.prog 8 #[pt wb, opV 1 on a b cc d W S] w fun e w' => ∃ gv' D', e = .returned (.bool true) ∧ Plays w' wb gv' S0 D' (c + 1) ∧ Left w w' (pOwn wb gv D) (pOwn wb gv' D') := by
  have ho : Only Nob w (bx1 w 1 on a b cc d W S) := (Only.refl _ _).alloc _
  have H := hid (h.nob ho)
  have HO := hid ho
  clear h ho
  unfold opV
  by_cases hb : a < 4 ∨ 64 < a
  · go_enter Tryz.func8, Tryz.ntmps8
    go_wp2_with fail
    refine (beginsBad_any _ wb gv S0 D c H.out on a b cc d W S hb).mono ?_
    rintro e w1 ⟨rfl, hP, hL⟩
    go_wp2
    go_ret
    exact ⟨gv, D, rfl, hP.mono (Nat.le_succ c), Left.after HO.out hL⟩
  · go_enter Tryz.func8, Tryz.ntmps8
    go_wp2_with fail
    refine (beginsGood_any _ wb gv S0 D c H.out on a b cc d W S (by omega) (by omega)).mono ?_
    rintro e w1 ⟨gv', D', rfl, hP, hL⟩
    go_wp2
    go_ret
    exact ⟨gv', D', rfl, hP.mono (Nat.le_succ c), Left.after HO.out hL⟩

set_option maxRecDepth 100000 in
set_option maxHeartbeats 2000000 in
include h in
theorem stepNone_any (k : Int) (k1 : k ≠ 1) (hl : D.length = 0) :
    Calls Tryz.prog 8 #[pt wb, opV k on a b cc d W S] w fun e w' => ∃ gv' D', e = .returned (.bool true) ∧ Plays w' wb gv' S0 D' (c + 1) ∧ Left w w' (pOwn wb gv D) (pOwn wb gv' D') := by
  have ho : Only Nob w (bx1 w k on a b cc d W S) := (Only.refl _ _).alloc _
  have H := hid (h.nob ho)
  have HO := hid ho
  have c0 := h.c0
  have hlt := h.lt
  obtain ⟨sa, cap, hgv⟩ := h.shape
  rw [hgv, hl] at c0
  clear h ho hgv
  unfold opV
  go_enter Tryz.func8, Tryz.ntmps8
  go_wp2
  go_ret
  exact ⟨gv, D, rfl, H.out.mono (Nat.le_succ c), ⟨HO.out.of_nob, fun _ q => Or.inl q⟩⟩

end
end Go.Proofs.YtfcepnhknmbaaaaGreat
