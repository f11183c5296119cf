/- The law's step: New, and where there is no machine. -/
import Derived.Test.YtfcepnhknmbaaaaGreatLawBegins
import Derived.Deep.RegionHeld3
import Derived.Test.YtfcepnhknmbaaaaGreatLawTurns
import Derived.Test.YtfcepnhknmbaaaaGreatLawSaves
import Derived.Deep.SlicePairs
import Derived.ChangeSlices
import Derived.OpenShut
namespace Go.Proofs.YtfcepnhknmbaaaaGreat
open Go.RowKit Go.Deep

theorem mcCells_set : ∀ {D : List Mc} {i : Nat} {x y : Mc}, D[i]? = some x → y.mb = x.mb → y.rb = x.rb → mcCells (D.set i y) = mcCells D
  | z :: D, 0, x, y, h, e1, e2 => by
    simp only [List.getElem?_cons_zero, Option.some.injEq] at h
    subst h
    simp only [List.set_cons_zero, mcCells, e1, e2]
  | z :: D, i + 1, x, y, h, e1, e2 => by
    rw [List.getElem?_cons_succ] at h
    simp only [List.set_cons_succ, mcCells, mcCells_set h e1 e2]

theorem Plays.turn {w w' : World} {wb : Nat} {gv S : Value} {D : List Mc} {c i : Nat} {own' : Nat → Prop} (h : Plays w wb gv S D c) (hi : i < D.length) (hd : DuoAt w' D[i].mb D[i].rb own' (c + 1)) (l : Left w w' D[i].own own') :
    ∃ D', Plays w' wb gv S D' (c + 1) ∧ Left w w' (pOwn wb gv D) (pOwn wb gv D') := by
  have hm : D[i] ∈ D := List.getElem_mem hi
  have hdis : ∀ j, (hj : j < D.length) → j ≠ i → ∀ b, D[j].own b → ¬ D[i].own b := fun j hj hne b q1 q2 => by
    have hp := List.pairwise_iff_getElem.1 h.dis
    rcases Nat.lt_or_ge j i with q | q
    · exact hp j i hj hi q b q1 q2
    · exact hp i j hi hj (by omega) b q2 q1
  have hnew : ∀ b, own' b → b ≠ wb ∧ gv.ownBlock ≠ some b := fun b hb => by
    rcases l.ext b hb with q | q
    · exact h.n1 _ hm b q
    · refine ⟨by have := h.lt; omega, fun e => ?_⟩
      have := (h.sl.lt b e).2
      omega
  have hcross : ∀ j, (hj : j < D.length) → j ≠ i → ∀ b, D[j].own b → ¬ own' b := fun j hj hne b q1 q2 => by
    rcases l.ext b q2 with q | q
    · exact hdis j hj hne b q1 q
    · have := (h.duo _ (List.getElem_mem hj)).own_lt q1
      omega
  obtain ⟨t, r⟩ := h.row
  refine ⟨D.set i ⟨D[i].mb, D[i].rb, own'⟩, ⟨⟨t, l.only.row r (fun q => (h.n1 _ hm wb q).1 rfl)⟩, ?_, fun y hy => ?_, fun y hy b hb => ?_, h.n2, ?_, by rw [List.length_set]; exact h.le⟩, ⟨?_, fun b hb => ?_⟩⟩
  · rw [List.length_set, mcCells_set (y := ⟨D[i].mb, D[i].rb, own'⟩) (List.getElem?_eq_getElem hi) rfl rfl]
    exact owns_only h.sl l.only (fun b e q => (h.n1 _ hm b q).2 e)
  · obtain ⟨j, hj, rfl⟩ := List.mem_iff_getElem.1 hy
    rw [List.getElem_set]
    split
    · exact hd
    · rename_i hne
      rw [List.length_set] at hj
      exact ((h.duo _ (List.getElem_mem hj)).only l.only (hdis j hj (fun e => hne e.symm))).mono (Nat.le_succ c)
  · obtain ⟨j, hj, rfl⟩ := List.mem_iff_getElem.1 hy
    rw [List.getElem_set] at hb
    split at hb
    · exact hnew b hb
    · rw [List.length_set] at hj
      exact h.n1 _ (List.getElem_mem hj) b hb
  · rw [List.pairwise_iff_getElem]
    intro j k hj hk hjk b
    rw [List.length_set] at hj hk
    rw [List.getElem_set, List.getElem_set]
    split
    · rename_i e
      subst e
      rw [if_neg (by omega)]
      exact fun q1 q2 => hcross k hk (by omega) b q2 q1
    · rename_i e
      split
      · rename_i e2
        subst e2
        exact fun q1 q2 => hcross j hj (by omega) b q1 q2
      · exact List.pairwise_iff_getElem.1 h.dis j k hj hk hjk b
  · exact l.only.mono (fun k _ q => Or.inr (Or.inr ⟨_, hm, q⟩))
  · rcases hb with q | q | ⟨y, hy, q⟩
    · exact Or.inl (Or.inl q)
    · exact Or.inl (Or.inr (Or.inl q))
    · obtain ⟨j, hj, rfl⟩ := List.mem_iff_getElem.1 hy
      rw [List.getElem_set] at q
      split at q
      · rcases l.ext b q with q | q
        · exact Or.inl (Or.inr (Or.inr ⟨_, hm, q⟩))
        · exact Or.inr q
      · rw [List.length_set] at hj
        exact Or.inl (Or.inr (Or.inr ⟨_, List.getElem_mem hj, q⟩))

theorem Left.after {w w0 w1 : World} {own own' : Nat → Prop} (o : Only Nob w w0) (l : Left w0 w1 own own') : Left w w1 own own' :=
  ⟨(o.of_nob (S := own)).trans l.only, fun b hb => (l.ext b hb).imp id (fun q => Nat.le_trans o.size q)⟩

section
variable (w : World) (wb : Nat) (gv S0 : Value) (D : List Mc) (c : Nat) (h : Plays w wb gv S0 D c) (on a b cc d : Int) (W : Bool) (S : Value)

set_option maxRecDepth 100000 in
set_option maxHeartbeats 2000000 in
theorem stepNew_any (w : World) (wb : Nat) (gv S0 : Value) (D : List Mc) (c : Nat) (h : Plays w wb gv S0 D c) (on a b cc d : Int) (W : Bool) (S : Value) :
    Calls Tryz.prog 8 #[pt wb, opV 1 on a b cc d W S] w fun e w' => ∃ gv' D', e = .returned (.bool true) ∧ Plays w' wb gv' S0 D' (c + 1) ∧ Left w w' (pOwn wb gv D) (pOwn wb gv' D') := by
  have ho : Only Nob w (bx1 w 1 on a b cc d W S) := (Only.refl _ _).alloc _
  have H := hid (h.nob ho)
  have HO := hid ho
  clear h ho
  unfold opV
  by_cases hb : a < 4 ∨ 64 < a
  · go_enter Tryz.func8, Tryz.ntmps8
    go_wp2_with fail
    refine (beginsBad_any _ wb gv S0 D c H.out on a b cc d W S hb).mono ?_
    rintro e w1 ⟨rfl, hP, hL⟩
    go_wp2
    go_ret
    exact ⟨gv, D, rfl, hP.mono (Nat.le_succ c), Left.after HO.out hL⟩
  · go_enter Tryz.func8, Tryz.ntmps8
    go_wp2_with fail
    refine (beginsGood_any _ wb gv S0 D c H.out on a b cc d W S (by omega) (by omega)).mono ?_
    rintro e w1 ⟨gv', D', rfl, hP, hL⟩
    go_wp2
    go_ret
    exact ⟨gv', D', rfl, hP.mono (Nat.le_succ c), Left.after HO.out hL⟩

set_option maxRecDepth 100000 in
set_option maxHeartbeats 2000000 in
theorem stepNone_any (w : World) (wb : Nat) (gv S0 : Value) (D : List Mc) (c : Nat) (h : Plays w wb gv S0 D c) (on a b cc d : Int) (W : Bool) (S : Value) (k : Int) (k1 : k ≠ 1) (hl : D.length = 0) :
    Calls Tryz.prog 8 #[pt wb, opV k on a b cc d W S] w fun e w' => ∃ gv' D', e = .returned (.bool true) ∧ Plays w' wb gv' S0 D' (c + 1) ∧ Left w w' (pOwn wb gv D) (pOwn wb gv' D') := by
  have ho : Only Nob w (bx1 w k on a b cc d W S) := (Only.refl _ _).alloc _
  have H := hid (h.nob ho)
  have HO := hid ho
  have c0 := h.c0
  have hlt := h.lt
  obtain ⟨sa, cap, hgv⟩ := h.shape
  rw [hgv, hl] at c0
  clear h ho hgv
  unfold opV
  go_enter Tryz.func8, Tryz.ntmps8
  go_wp2
  go_ret
  exact ⟨gv, D, rfl, H.out.mono (Nat.le_succ c), ⟨HO.out.of_nob, fun _ q => Or.inl q⟩⟩

end
end Go.Proofs.YtfcepnhknmbaaaaGreat

/- The law's step: one kind after another. -/
namespace Go.Proofs.YtfcepnhknmbaaaaGreat
open Go.RowKit Go.Deep

section
variable (w : World) (mb rb : Nat) (own : Nat → Prop) (c : Nat) (h : DuoAt w mb rb own c) (on a b cc d : Int) (W : Bool) (S : Value)
theorem holds_any (w : World) (mb rb : Nat) (own : Nat → Prop) (c : Nat) (h : DuoAt w mb rb own c) (on a b cc d : Int) (W : Bool) (S : Value) (hc : c < big) (ha : In64 a) (k : Int) (k1 : 2 ≤ k) (k2 : k ≤ 6) :
    Calls Tryz.prog 11 #[mcV mb rb, opV k on a b cc d W S] w fun e w' => e = .returned (.bool true) ∧ ∃ own', DuoAt w' mb rb own' (c + 1) ∧ Left w w' own own' := by
  have e : k = 2 ∨ k = 3 ∨ k = 4 ∨ k = 5 ∨ k = 6 := by omega
  rcases e with rfl | rfl | rfl | rfl | rfl
  · exact holdsFree_any w mb rb own c h on a b cc d W S
  · exact holdsCreate_any w mb rb own c h on a b cc d W S hc
  · exact holdsDestroy_any w mb rb own c h on a b cc d W S ha
  · exact holdsMap_any w mb rb own c h on a b cc d W S hc ha
  · exact holdsUnmap_any w mb rb own c h on a b cc d W S hc ha 6 (by decide) (by decide) (by decide) (by decide)
theorem reads_any (w : World) (mb rb : Nat) (own : Nat → Prop) (c : Nat) (h : DuoAt w mb rb own c) (on a b cc d : Int) (W : Bool) (S : Value) (hc : c < big) (ha : In64 a) (k : Int) (k1 : 7 ≤ k) (k2 : k ≤ 8) :
    Calls Tryz.prog 12 #[mcV mb rb, opV k on a b cc d W S] w fun e w' => e = .returned (.bool true) ∧ ∃ own', DuoAt w' mb rb own' (c + 1) ∧ Left w w' own own' := by
  have e : k = 7 ∨ k = 8 := by omega
  rcases e with rfl | rfl
  · exact readsRead_any w mb rb own c h on a b cc d W S hc ha
  · exact readsWrite_any w mb rb own c h on a b cc d W S hc ha 8 (by decide)
end

section
variable (w : World) (wb : Nat) (gv S0 : Value) (D : List Mc) (c : Nat) (h : Plays w wb gv S0 D c) (on a b cc d : Int) (W : Bool) (S : Value)

set_option maxRecDepth 100000 in
set_option maxHeartbeats 4000000 in
theorem stepHolds_any (w : World) (wb : Nat) (gv S0 : Value) (D : List Mc) (c : Nat) (h : Plays w wb gv S0 D c) (on a b cc d : Int) (W : Bool) (S : Value) (k : Int) (k1 : 2 ≤ k) (k2 : k ≤ 6) (hon : In64 on) (ha : In64 a) (hc : c < big) (hl : D.length ≠ 0) :
    Calls Tryz.prog 8 #[pt wb, opV k on a b cc d W S] w fun e w' => ∃ gv' D', e = .returned (.bool true) ∧ Plays w' wb gv' S0 D' (c + 1) ∧ Left w w' (pOwn wb gv D) (pOwn wb gv' D') := by
  have ho : Only Nob w (bx1 w k on a b cc d W S) := (Only.refl _ _).alloc _
  have H := hid h
  have hbd := pickI_bd on D.length (by omega)
  obtain ⟨i, hpi⟩ : ∃ i : Nat, pickI on D.length = (i : Int) := ⟨(pickI on D.length).toNat, by omega⟩
  have hiD : i < D.length := by omega
  have hle := h.le
  have hp := h.nob ho
  obtain ⟨sb, cap, hgv, x1, x2⟩ := hp.at' hiD
  have c0 := hp.c0
  rw [hgv] at c0
  have HON : (bx1 w k on a b cc d W S).cell? ⟨w.heap.size, 1, none⟩ = some (.int .i64 on) := Only.laid (w := w) (c := #[.int .i64 k, .int .i64 on, .int .i64 a, .int .i64 b, .int .i64 cc, .int .i64 d, .bool W, S]) (t := 30) (Only.refl Nob _) (fun q => q) 1
  have n1 := World.new_ne _ _ c0
  have n2 := World.new_ne _ _ x1
  have n3 := World.new_ne _ _ x2
  have n4 := World.new_ne _ _ HON
  have HPI := hid hpi
  clear h ho hgv hp hbd hpi
  have hk1 : k ≠ 1 := by omega
  have i0 : (0 : Int) ≤ (i : Int) := by omega
  have i1 : (i : Int) < (D.length : Int) := by omega
  have ho2 : Only Nob w ((bx1 w k on a b cc d W S).alloc (.cells #[pt D[i].mb, pt D[i].rb] 35)).drew := (((Only.refl _ _).alloc _).alloc _).drew
  have HP := hid (H.out.nob ho2)
  have HO2 := hid ho2
  have HD := hid (HP.out.duo D[i] (List.getElem_mem hiD))
  clear ho2
  generalize hmb : D[i].mb = mb at *
  generalize hrb : D[i].rb = rb at *
  have HMB := hid (And.intro hmb hrb)
  clear hmb hrb
  unfold opV
  unfold bx1 at *
  go_enter Tryz.func8, Tryz.ntmps8
  go_wp2_with fail
  go_region_held3 (fun w' => w'.cell? ⟨wb, 0, none⟩ = some (.slice (some ⟨sb, 0, none⟩) D.length cap) ∧ w'.cell? ⟨w.heap.size, 1, none⟩ = some (.int .i64 on) ∧ w'.cell? ⟨sb, i * 2, none⟩ = some (pt mb) ∧ w'.cell? ⟨sb, i * 2 + 1, none⟩ = some (pt rb)) (go_keep)
    (first | (go_at_call 10; refine (lpick_any _ on D.length hon.1 hon.2 (by omega) (by omega)).mono ?_; rintro e w1 ⟨rfl, rfl⟩; rw [HPI.out]))
  all_goals
    clear x1 x2 c0 HON n1 n2 n3 n4
    go_wp2_with fail
    refine (holds_any _ mb rb _ c HD.out on a b cc d W S hc ha k k1 k2).mono ?_
    rintro e w2 ⟨rfl, own', hD2, hL2⟩
    go_wp2
    go_ret
    obtain ⟨q1, q2⟩ := HMB.out
    rw [← q1, ← q2] at hD2
    obtain ⟨D', t1, t2⟩ := HP.out.turn hiD hD2 hL2
    exact ⟨gv, D', rfl, t1, Left.after HO2.out t2⟩

set_option maxRecDepth 100000 in
set_option maxHeartbeats 4000000 in
theorem stepReads7_any (w : World) (wb : Nat) (gv S0 : Value) (D : List Mc) (c : Nat) (h : Plays w wb gv S0 D c) (on a b cc d : Int) (W : Bool) (S : Value) (hon : In64 on) (ha : In64 a) (hc : c < big) (hl : D.length ≠ 0) :
    Calls Tryz.prog 8 #[pt wb, opV 7 on a b cc d W S] w fun e w' => ∃ gv' D', e = .returned (.bool true) ∧ Plays w' wb gv' S0 D' (c + 1) ∧ Left w w' (pOwn wb gv D) (pOwn wb gv' D') := by
  have ho : Only Nob w (bx1 w 7 on a b cc d W S) := (Only.refl _ _).alloc _
  have H := hid h
  have hbd := pickI_bd on D.length (by omega)
  obtain ⟨i, hpi⟩ : ∃ i : Nat, pickI on D.length = (i : Int) := ⟨(pickI on D.length).toNat, by omega⟩
  have hiD : i < D.length := by omega
  have hle := h.le
  have hp := h.nob ho
  obtain ⟨sb, cap, hgv, x1, x2⟩ := hp.at' hiD
  have c0 := hp.c0
  rw [hgv] at c0
  have HON : (bx1 w 7 on a b cc d W S).cell? ⟨w.heap.size, 1, none⟩ = some (.int .i64 on) := Only.laid (w := w) (c := #[.int .i64 7, .int .i64 on, .int .i64 a, .int .i64 b, .int .i64 cc, .int .i64 d, .bool W, S]) (t := 30) (Only.refl Nob _) (fun q => q) 1
  have n1 := World.new_ne _ _ c0
  have n2 := World.new_ne _ _ x1
  have n3 := World.new_ne _ _ x2
  have n4 := World.new_ne _ _ HON
  have HPI := hid hpi
  clear h ho hgv hp hbd hpi
  have i0 : (0 : Int) ≤ (i : Int) := by omega
  have i1 : (i : Int) < (D.length : Int) := by omega
  have ho2 : Only Nob w ((bx1 w 7 on a b cc d W S).alloc (.cells #[pt D[i].mb, pt D[i].rb] 35)).drew := (((Only.refl _ _).alloc _).alloc _).drew
  have HP := hid (H.out.nob ho2)
  have HO2 := hid ho2
  have HD := hid (HP.out.duo D[i] (List.getElem_mem hiD))
  clear ho2
  generalize hmb : D[i].mb = mb at *
  generalize hrb : D[i].rb = rb at *
  have HMB := hid (And.intro hmb hrb)
  clear hmb hrb
  unfold opV
  unfold bx1 at *
  go_enter Tryz.func8, Tryz.ntmps8
  go_wp2_with fail
  go_region_held3 (fun w' => w'.cell? ⟨wb, 0, none⟩ = some (.slice (some ⟨sb, 0, none⟩) D.length cap) ∧ w'.cell? ⟨w.heap.size, 1, none⟩ = some (.int .i64 on) ∧ w'.cell? ⟨sb, i * 2, none⟩ = some (pt mb) ∧ w'.cell? ⟨sb, i * 2 + 1, none⟩ = some (pt rb)) (go_keep)
    (first | (go_at_call 10; refine (lpick_any _ on D.length hon.1 hon.2 (by omega) (by omega)).mono ?_; rintro e w1 ⟨rfl, rfl⟩; rw [HPI.out]))
  all_goals
    clear x1 x2 c0 HON n1 n2 n3 n4
    go_wp2_with fail
    refine (reads_any _ mb rb _ c HD.out on a b cc d W S hc ha 7 (by decide) (by decide)).mono ?_
    rintro e w2 ⟨rfl, own', hD2, hL2⟩
    go_wp2
    go_ret
    obtain ⟨q1, q2⟩ := HMB.out
    rw [← q1, ← q2] at hD2
    obtain ⟨D', t1, t2⟩ := HP.out.turn hiD hD2 hL2
    exact ⟨gv, D', rfl, t1, Left.after HO2.out t2⟩

set_option maxRecDepth 100000 in
set_option maxHeartbeats 4000000 in
theorem stepReads8_any (w : World) (wb : Nat) (gv S0 : Value) (D : List Mc) (c : Nat) (h : Plays w wb gv S0 D c) (on a b cc d : Int) (W : Bool) (S : Value) (hon : In64 on) (ha : In64 a) (hc : c < big) (hl : D.length ≠ 0) :
    Calls Tryz.prog 8 #[pt wb, opV 8 on a b cc d W S] w fun e w' => ∃ gv' D', e = .returned (.bool true) ∧ Plays w' wb gv' S0 D' (c + 1) ∧ Left w w' (pOwn wb gv D) (pOwn wb gv' D') := by
  have ho : Only Nob w (bx1 w 8 on a b cc d W S) := (Only.refl _ _).alloc _
  have H := hid h
  have hbd := pickI_bd on D.length (by omega)
  obtain ⟨i, hpi⟩ : ∃ i : Nat, pickI on D.length = (i : Int) := ⟨(pickI on D.length).toNat, by omega⟩
  have hiD : i < D.length := by omega
  have hle := h.le
  have hp := h.nob ho
  obtain ⟨sb, cap, hgv, x1, x2⟩ := hp.at' hiD
  have c0 := hp.c0
  rw [hgv] at c0
  have HON : (bx1 w 8 on a b cc d W S).cell? ⟨w.heap.size, 1, none⟩ = some (.int .i64 on) := Only.laid (w := w) (c := #[.int .i64 8, .int .i64 on, .int .i64 a, .int .i64 b, .int .i64 cc, .int .i64 d, .bool W, S]) (t := 30) (Only.refl Nob _) (fun q => q) 1
  have n1 := World.new_ne _ _ c0
  have n2 := World.new_ne _ _ x1
  have n3 := World.new_ne _ _ x2
  have n4 := World.new_ne _ _ HON
  have HPI := hid hpi
  clear h ho hgv hp hbd hpi
  have i0 : (0 : Int) ≤ (i : Int) := by omega
  have i1 : (i : Int) < (D.length : Int) := by omega
  have ho2 : Only Nob w ((bx1 w 8 on a b cc d W S).alloc (.cells #[pt D[i].mb, pt D[i].rb] 35)).drew := (((Only.refl _ _).alloc _).alloc _).drew
  have HP := hid (H.out.nob ho2)
  have HO2 := hid ho2
  have HD := hid (HP.out.duo D[i] (List.getElem_mem hiD))
  clear ho2
  generalize hmb : D[i].mb = mb at *
  generalize hrb : D[i].rb = rb at *
  have HMB := hid (And.intro hmb hrb)
  clear hmb hrb
  unfold opV
  unfold bx1 at *
  go_enter Tryz.func8, Tryz.ntmps8
  go_wp2_with fail
  go_region_held3 (fun w' => w'.cell? ⟨wb, 0, none⟩ = some (.slice (some ⟨sb, 0, none⟩) D.length cap) ∧ w'.cell? ⟨w.heap.size, 1, none⟩ = some (.int .i64 on) ∧ w'.cell? ⟨sb, i * 2, none⟩ = some (pt mb) ∧ w'.cell? ⟨sb, i * 2 + 1, none⟩ = some (pt rb)) (go_keep)
    (first | (go_at_call 10; refine (lpick_any _ on D.length hon.1 hon.2 (by omega) (by omega)).mono ?_; rintro e w1 ⟨rfl, rfl⟩; rw [HPI.out]))
  all_goals
    clear x1 x2 c0 HON n1 n2 n3 n4
    go_wp2_with fail
    refine (reads_any _ mb rb _ c HD.out on a b cc d W S hc ha 8 (by decide) (by decide)).mono ?_
    rintro e w2 ⟨rfl, own', hD2, hL2⟩
    go_wp2
    go_ret
    obtain ⟨q1, q2⟩ := HMB.out
    rw [← q1, ← q2] at hD2
    obtain ⟨D', t1, t2⟩ := HP.out.turn hiD hD2 hL2
    exact ⟨gv, D', rfl, t1, Left.after HO2.out t2⟩

end
end Go.Proofs.YtfcepnhknmbaaaaGreat

/- The law's step: a kind that is none. -/
namespace Go.Proofs.YtfcepnhknmbaaaaGreat
open Go.RowKit Go.Deep
section
variable (w : World) (wb : Nat) (gv S0 : Value) (D : List Mc) (c : Nat) (h : Plays w wb gv S0 D c) (on a b cc d : Int) (W : Bool) (S : Value)

set_option maxRecDepth 100000 in
set_option maxHeartbeats 4000000 in
theorem stepElse_any (w : World) (wb : Nat) (gv S0 : Value) (D : List Mc) (c : Nat) (h : Plays w wb gv S0 D c) (on a b cc d : Int) (W : Bool) (S : Value) (k : Int) (k1 : k ≤ 0) (hon : In64 on) (hl : D.length ≠ 0) :
    Calls Tryz.prog 8 #[pt wb, opV k on a b cc d W S] w fun e w' => ∃ gv' D', e = .returned (.bool true) ∧ Plays w' wb gv' S0 D' (c + 1) ∧ Left w w' (pOwn wb gv D) (pOwn wb gv' D') := by
  have ho : Only Nob w (bx1 w k on a b cc d W S) := (Only.refl _ _).alloc _
  have H := hid h
  have hbd := pickI_bd on D.length (by omega)
  obtain ⟨i, hpi⟩ : ∃ i : Nat, pickI on D.length = (i : Int) := ⟨(pickI on D.length).toNat, by omega⟩
  have hiD : i < D.length := by omega
  have hle := h.le
  have hp := h.nob ho
  obtain ⟨sb, cap, hgv, x1, x2⟩ := hp.at' hiD
  have c0 := hp.c0
  rw [hgv] at c0
  have HON : (bx1 w k on a b cc d W S).cell? ⟨w.heap.size, 1, none⟩ = some (.int .i64 on) := Only.laid (w := w) (c := #[.int .i64 k, .int .i64 on, .int .i64 a, .int .i64 b, .int .i64 cc, .int .i64 d, .bool W, S]) (t := 30) (Only.refl Nob _) (fun q => q) 1
  have n1 := World.new_ne _ _ c0
  have n2 := World.new_ne _ _ x1
  have n3 := World.new_ne _ _ x2
  have n4 := World.new_ne _ _ HON
  have HPI := hid hpi
  clear h ho hgv hp hbd hpi
  have hk1 : k ≠ 1 := by omega
  have hk2 : ¬ 2 ≤ k := by omega
  have hk3 : (k == 7) = false := by simp; omega
  have hk4 : (k == 8) = false := by simp; omega
  have hk5 : ¬ 9 ≤ k := by omega
  have hk6 : ¬ 13 ≤ k := by omega
  have i0 : (0 : Int) ≤ (i : Int) := by omega
  have i1 : (i : Int) < (D.length : Int) := by omega
  have ho2 : Only Nob w ((bx1 w k on a b cc d W S).alloc (.cells #[pt D[i].mb, pt D[i].rb] 35)).drew := (((Only.refl _ _).alloc _).alloc _).drew
  have HP := hid (H.out.nob ho2)
  have HO2 := hid ho2
  have HD := hid (HP.out.duo D[i] (List.getElem_mem hiD))
  clear ho2
  generalize hmb : D[i].mb = mb at *
  generalize hrb : D[i].rb = rb at *
  have HMB := hid (And.intro hmb hrb)
  clear hmb hrb
  unfold opV
  unfold bx1 at *
  go_enter Tryz.func8, Tryz.ntmps8
  go_wp2_with fail
  go_region_held3 (fun w' => w'.cell? ⟨wb, 0, none⟩ = some (.slice (some ⟨sb, 0, none⟩) D.length cap) ∧ w'.cell? ⟨w.heap.size, 1, none⟩ = some (.int .i64 on) ∧ w'.cell? ⟨sb, i * 2, none⟩ = some (pt mb) ∧ w'.cell? ⟨sb, i * 2 + 1, none⟩ = some (pt rb)) (go_keep)
    (first | (go_at_call 10; refine (lpick_any _ on D.length hon.1 hon.2 (by omega) (by omega)).mono ?_; rintro e w1 ⟨rfl, rfl⟩; rw [HPI.out]))
  all_goals
    clear x1 x2 c0 HON n1 n2 n3 n4
    go_wp2
    go_ret
    exact ⟨rfl, gv, D, HP.out.mono (Nat.le_succ c), ⟨HO2.out.of_nob, fun _ q => Or.inl q⟩⟩

end
end Go.Proofs.YtfcepnhknmbaaaaGreat

/- The law's step: Share, Root, Load, Store. -/
namespace Go.Proofs.YtfcepnhknmbaaaaGreat
open Go.RowKit Go.Deep

section
variable (w : World) (mb rb : Nat) (own : Nat → Prop) (c : Nat) (h : DuoAt w mb rb own c) (on a b cc d : Int) (W : Bool) (S : Value)
theorem turns_any (w : World) (mb rb : Nat) (own : Nat → Prop) (c : Nat) (h : DuoAt w mb rb own c) (on a b cc d : Int) (W : Bool) (S : Value) (hc : c < big) (ha : In64 a) (hcc : In64 cc) (k : Int) (k1 : 9 ≤ k) (k2 : k ≤ 12) :
    Calls Tryz.prog 13 #[mcV mb rb, opV k on a b cc d W S] w fun e w' => e = .returned (.bool true) ∧ ∃ own', DuoAt w' mb rb own' (c + 1) ∧ Left w w' own own' := by
  have e : k = 9 ∨ k = 10 ∨ k = 11 ∨ k = 12 := by omega
  rcases e with rfl | rfl | rfl | rfl
  · exact turnsShare_any w mb rb own c h on a b cc d W S hc ha hcc
  · exact turnsRoot_any w mb rb own c h on a b cc d W S ha
  · exact turnsLoad_any w mb rb own c h on a b cc d W S hc ha
  · exact turnsStore_any w mb rb own c h on a b cc d W S hc ha 12 (by decide) (by decide) (by decide)
end

section
variable (w : World) (wb : Nat) (gv S0 : Value) (D : List Mc) (c : Nat) (h : Plays w wb gv S0 D c) (on a b cc d : Int) (W : Bool) (S : Value)

set_option maxRecDepth 100000 in
set_option maxHeartbeats 4000000 in
theorem stepTurns_any (w : World) (wb : Nat) (gv S0 : Value) (D : List Mc) (c : Nat) (h : Plays w wb gv S0 D c) (on a b cc d : Int) (W : Bool) (S : Value) (k : Int) (k1 : 9 ≤ k) (k2 : k ≤ 12) (hon : In64 on) (ha : In64 a) (hcc : In64 cc) (hc : c < big) (hl : D.length ≠ 0) :
    Calls Tryz.prog 8 #[pt wb, opV k on a b cc d W S] w fun e w' => ∃ gv' D', e = .returned (.bool true) ∧ Plays w' wb gv' S0 D' (c + 1) ∧ Left w w' (pOwn wb gv D) (pOwn wb gv' D') := by
  have ho : Only Nob w (bx1 w k on a b cc d W S) := (Only.refl _ _).alloc _
  have H := hid h
  have hbd := pickI_bd on D.length (by omega)
  obtain ⟨i, hpi⟩ : ∃ i : Nat, pickI on D.length = (i : Int) := ⟨(pickI on D.length).toNat, by omega⟩
  have hiD : i < D.length := by omega
  have hle := h.le
  have hp := h.nob ho
  obtain ⟨sb, cap, hgv, x1, x2⟩ := hp.at' hiD
  have c0 := hp.c0
  rw [hgv] at c0
  have HON : (bx1 w k on a b cc d W S).cell? ⟨w.heap.size, 1, none⟩ = some (.int .i64 on) := Only.laid (w := w) (c := #[.int .i64 k, .int .i64 on, .int .i64 a, .int .i64 b, .int .i64 cc, .int .i64 d, .bool W, S]) (t := 30) (Only.refl Nob _) (fun q => q) 1
  have n1 := World.new_ne _ _ c0
  have n2 := World.new_ne _ _ x1
  have n3 := World.new_ne _ _ x2
  have n4 := World.new_ne _ _ HON
  have HPI := hid hpi
  clear h ho hgv hp hbd hpi
  have hk1 : k ≠ 1 := by omega
  have hk2 : ¬ k ≤ 6 := by omega
  have hk3 : (k == 7) = false := by simp; omega
  have hk4 : (k == 8) = false := by simp; omega
  have hk5 : 2 ≤ k := by omega
  have i0 : (0 : Int) ≤ (i : Int) := by omega
  have i1 : (i : Int) < (D.length : Int) := by omega
  have ho2 : Only Nob w ((bx1 w k on a b cc d W S).alloc (.cells #[pt D[i].mb, pt D[i].rb] 35)).drew := (((Only.refl _ _).alloc _).alloc _).drew
  have HP := hid (H.out.nob ho2)
  have HO2 := hid ho2
  have HD := hid (HP.out.duo D[i] (List.getElem_mem hiD))
  clear ho2
  generalize hmb : D[i].mb = mb at *
  generalize hrb : D[i].rb = rb at *
  have HMB := hid (And.intro hmb hrb)
  clear hmb hrb
  unfold opV
  unfold bx1 at *
  go_enter Tryz.func8, Tryz.ntmps8
  go_wp2_with fail
  go_region_held3 (fun w' => w'.cell? ⟨wb, 0, none⟩ = some (.slice (some ⟨sb, 0, none⟩) D.length cap) ∧ w'.cell? ⟨w.heap.size, 1, none⟩ = some (.int .i64 on) ∧ w'.cell? ⟨sb, i * 2, none⟩ = some (pt mb) ∧ w'.cell? ⟨sb, i * 2 + 1, none⟩ = some (pt rb)) (go_keep)
    (first | (go_at_call 10; refine (lpick_any _ on D.length hon.1 hon.2 (by omega) (by omega)).mono ?_; rintro e w1 ⟨rfl, rfl⟩; rw [HPI.out]))
  all_goals
    clear x1 x2 c0 HON n1 n2 n3 n4
    go_wp2_with fail
    refine (turns_any _ mb rb _ c HD.out on a b cc d W S hc ha hcc k k1 k2).mono ?_
    rintro e w2 ⟨rfl, own', hD2, hL2⟩
    go_wp2
    go_ret
    obtain ⟨q1, q2⟩ := HMB.out
    rw [← q1, ← q2] at hD2
    obtain ⟨D', t1, t2⟩ := HP.out.turn hiD hD2 hL2
    exact ⟨gv, D', rfl, t1, Left.after HO2.out t2⟩

end
end Go.Proofs.YtfcepnhknmbaaaaGreat

/- The law's step: Save, Restore, Upgrade. -/
namespace Go.Proofs.YtfcepnhknmbaaaaGreat
open Go.RowKit Go.Deep

section
variable (w : World) (wb mb rb : Nat) (own : Nat → Prop) (c : Nat) (h : DuoAt w mb rb own c) (on a b cc d : Int) (W : Bool) (bs sb : ByteArray)
theorem saves_any (w : World) (wb mb rb : Nat) (own : Nat → Prop) (c : Nat) (h : DuoAt w mb rb own c) (on a b cc d : Int) (W : Bool) (bs sb : ByteArray) (hc : c < big) (ha : In64 a) (hbs : bs.size ≤ maxLen) (hsb : sb.size ≤ maxLen) (hcw : w.cell? ⟨wb, 1, none⟩ = some (.string bs)) (hfw : w.frozen? ⟨wb, 1, none⟩ = false) (hlw : wb < w.heap.size) (hno : ¬ own wb) (k : Int) (k1 : 13 ≤ k) (k2 : k ≤ 15) :
    Calls Tryz.prog 14 #[pt wb, mcV mb rb, opV k on a b cc d W (.string sb)] w fun e w' => e = .returned (.bool true) ∧ SavedTo w w' wb mb rb own c := by
  have hs : (pickS bs sb).size ≤ maxLen := by rw [pickS]; split <;> assumption
  have e : k = 13 ∨ k = 14 ∨ k = 15 := by omega
  rcases e with rfl | rfl | rfl
  · exact savesSave_any w wb mb rb own c h on a b cc d W bs sb hc ha hcw hfw hlw hno
  · exact savesRe_any w wb mb rb own c h on a b cc d W bs sb hc hcw hs
  · exact savesUp_any w wb mb rb own c h on a b cc d W bs sb hcw hs
end

theorem Plays.bytes {w : World} {wb : Nat} {gv S : Value} {D : List Mc} {c : Nat} (h : Plays w wb gv S D c) (v : Value) : Plays (w.setCell ⟨wb, 1, none⟩ v) wb gv v D c ∧ Only (One wb) w (w.setCell ⟨wb, 1, none⟩ v) := by
  have o : Only (One wb) w (w.setCell ⟨wb, 1, none⟩ v) := (Only.refl (One wb) w).setCell (p := ⟨wb, 1, none⟩) (fun _ => rfl) _
  obtain ⟨t, r⟩ := h.row
  refine ⟨⟨⟨t, (r.set 1 v).congr (fun j hj => ?_)⟩, owns_only h.sl o (fun b hb e => h.n2 (by rw [hb, show b = wb from e])), fun x hx => (h.duo x hx).only o (fun b hb e => (h.n1 x hx b hb).1 e), h.n1, h.n2, h.dis, h.le⟩, o⟩
  have e : j = 0 ∨ j = 1 := by omega
  rcases e with e | e <;> subst e <;> rfl

section
variable (w : World) (wb : Nat) (gv : Value) (bs : ByteArray) (D : List Mc) (c : Nat) (h : Plays w wb gv (.string bs) D c) (on a b cc d : Int) (W : Bool) (sb : ByteArray)

set_option maxRecDepth 100000 in
set_option maxHeartbeats 4000000 in
theorem stepSaves_any (w : World) (wb : Nat) (gv : Value) (bs : ByteArray) (D : List Mc) (c : Nat) (h : Plays w wb gv (.string bs) D c) (on a b cc d : Int) (W : Bool) (sb : ByteArray) (k : Int) (k1 : 13 ≤ k) (k2 : k ≤ 15) (hon : In64 on) (ha : In64 a) (hc : c < big) (hl : D.length ≠ 0) (hbs : bs.size ≤ maxLen) (hsb : sb.size ≤ maxLen) :
    Calls Tryz.prog 8 #[pt wb, opV k on a b cc d W (.string sb)] w fun e w' => ∃ gv' D' bs', e = .returned (.bool true) ∧ bs'.size ≤ maxLen ∧ Plays w' wb gv' (.string bs') D' (c + 1) ∧ Left w w' (pOwn wb gv D) (pOwn wb gv' D') := by
  have ho : Only Nob w (bx1 w k on a b cc d W (.string sb)) := (Only.refl _ _).alloc _
  have H := hid h
  have hbd := pickI_bd on D.length (by omega)
  obtain ⟨i, hpi⟩ : ∃ i : Nat, pickI on D.length = (i : Int) := ⟨(pickI on D.length).toNat, by omega⟩
  have hiD : i < D.length := by omega
  have hle := h.le
  have hp := h.nob ho
  obtain ⟨sb0, cap, hgv, x1, x2⟩ := hp.at' hiD
  have c0 := hp.c0
  rw [hgv] at c0
  have HON : (bx1 w k on a b cc d W (.string sb)).cell? ⟨w.heap.size, 1, none⟩ = some (.int .i64 on) := Only.laid (w := w) (c := #[.int .i64 k, .int .i64 on, .int .i64 a, .int .i64 b, .int .i64 cc, .int .i64 d, .bool W, .string sb]) (t := 30) (Only.refl Nob _) (fun q => q) 1
  have n1 := World.new_ne _ _ c0
  have n2 := World.new_ne _ _ x1
  have n3 := World.new_ne _ _ x2
  have n4 := World.new_ne _ _ HON
  have HPI := hid hpi
  clear h ho hgv hp hbd hpi
  have hk1 : k ≠ 1 := by omega
  have hk2 : ¬ k ≤ 6 := by omega
  have hk3 : (k == 7) = false := by simp; omega
  have hk4 : (k == 8) = false := by simp; omega
  have hk5 : 2 ≤ k := by omega
  have hk6 : ¬ k ≤ 12 := by omega
  have hk7 : 9 ≤ k := by omega
  have i0 : (0 : Int) ≤ (i : Int) := by omega
  have i1 : (i : Int) < (D.length : Int) := by omega
  have ho2 : Only Nob w ((bx1 w k on a b cc d W (.string sb)).alloc (.cells #[pt D[i].mb, pt D[i].rb] 35)).drew := (((Only.refl _ _).alloc _).alloc _).drew
  have HP := hid (H.out.nob ho2)
  have HO2 := hid ho2
  have HD := hid (HP.out.duo D[i] (List.getElem_mem hiD))
  have HNO : Hid (¬ D[i].own wb) := fun q => (H.out.n1 _ (List.getElem_mem hiD) wb q).1 rfl
  have HCW : Hid (((bx1 w k on a b cc d W (.string sb)).alloc (.cells #[pt D[i].mb, pt D[i].rb] 35)).drew.cell? ⟨wb, 1, none⟩ = some (.string bs) ∧ ((bx1 w k on a b cc d W (.string sb)).alloc (.cells #[pt D[i].mb, pt D[i].rb] 35)).drew.frozen? ⟨wb, 1, none⟩ = false ∧ wb < ((bx1 w k on a b cc d W (.string sb)).alloc (.cells #[pt D[i].mb, pt D[i].rb] 35)).drew.heap.size) := by
    obtain ⟨t, r⟩ := HP.out.row
    exact ⟨r.cell (i := 1) (by omega), r.frozen 1, r.lt⟩
  clear ho2
  generalize hmb : D[i].mb = mb at *
  generalize hrb : D[i].rb = rb at *
  have HMB := hid (And.intro hmb hrb)
  clear hmb hrb
  unfold opV
  unfold bx1 at *
  go_enter Tryz.func8, Tryz.ntmps8
  go_wp2_with fail
  go_region_held3 (fun w' => w'.cell? ⟨wb, 0, none⟩ = some (.slice (some ⟨sb0, 0, none⟩) D.length cap) ∧ w'.cell? ⟨w.heap.size, 1, none⟩ = some (.int .i64 on) ∧ w'.cell? ⟨sb0, i * 2, none⟩ = some (pt mb) ∧ w'.cell? ⟨sb0, i * 2 + 1, none⟩ = some (pt rb)) (go_keep)
    (first | (go_at_call 10; refine (lpick_any _ on D.length hon.1 hon.2 (by omega) (by omega)).mono ?_; rintro e w1 ⟨rfl, rfl⟩; rw [HPI.out]))
  all_goals
    clear x1 x2 c0 HON n1 n2 n3 n4
    go_wp2_with fail
    refine (saves_any _ wb mb rb _ c HD.out on a b cc d W bs sb hc ha hbs hsb HCW.out.1 HCW.out.2.1 HCW.out.2.2 HNO.out k k1 k2).mono ?_
    rintro e w2 ⟨rfl, hSv⟩
    have HSV := hid hSv
    clear hSv
    go_wp2
    go_ret
    obtain ⟨own', w3, hD2, hL2, hw⟩ := HSV.out
    obtain ⟨q1, q2⟩ := HMB.out
    rw [← q1, ← q2] at hD2
    obtain ⟨D', t1, t2⟩ := HP.out.turn hiD hD2 hL2
    rcases hw with rfl | ⟨v, hv, rfl⟩
    · exact ⟨gv, D', bs, rfl, hbs, t1, Left.after HO2.out t2⟩
    · obtain ⟨u1, u2⟩ := t1.bytes (.string v)
      refine ⟨gv, D', v, rfl, hv, u1, Left.after HO2.out ⟨t2.only.after u2 (fun x hx e => Or.inl e), t2.ext⟩⟩
end
end Go.Proofs.YtfcepnhknmbaaaaGreat

/- The law's walk: played: every step of the two scripts. -/
namespace Go.Proofs.YtfcepnhknmbaaaaGreat
open Go.RowKit Go.Deep

theorem step_old (w : World) (wb : Nat) (gv S0 : Value) (D : List Mc) (c : Nat) (h : Plays w wb gv S0 D c) (hc : c < big) (k on a b cc d : Int) (W : Bool) (S : Value) (k12 : k ≤ 12) (hon : In64 on) (ha : In64 a) (hcc : In64 cc) :
    Calls Tryz.prog 8 #[pt wb, opV k on a b cc d W S] w fun e w' => ∃ gv' D', e = .returned (.bool true) ∧ Plays w' wb gv' S0 D' (c + 1) ∧ Left w w' (pOwn wb gv D) (pOwn wb gv' D') := by
  by_cases e1 : k = 1
  · subst e1
    exact stepNew_any w wb gv S0 D c h on a b cc d W S
  by_cases e2 : D.length = 0
  · exact stepNone_any w wb gv S0 D c h on a b cc d W S k e1 e2
  by_cases e3 : k ≤ 0
  · exact stepElse_any w wb gv S0 D c h on a b cc d W S k e3 hon e2
  by_cases e4 : k ≤ 6
  · exact stepHolds_any w wb gv S0 D c h on a b cc d W S k (by omega) e4 hon ha hc e2
  by_cases e5 : k = 7
  · subst e5
    exact stepReads7_any w wb gv S0 D c h on a b cc d W S hon ha hc e2
  by_cases e6 : k = 8
  · subst e6
    exact stepReads8_any w wb gv S0 D c h on a b cc d W S hon ha hc e2
  · exact stepTurns_any w wb gv S0 D c h on a b cc d W S k (by omega) k12 hon ha hcc hc e2
theorem step_any (w : World) (wb : Nat) (gv : Value) (bs : ByteArray) (D : List Mc) (c : Nat) (h : Plays w wb gv (.string bs) D c) (hbs : bs.size ≤ maxLen) (hc : c < big) (k on a b cc d : Int) (W : Bool) (S : Value) (hS : ∃ sb : ByteArray, S = .string sb ∧ sb.size ≤ maxLen) (k15 : k ≤ 15) (hon : In64 on) (ha : In64 a) (hcc : In64 cc) :
    Calls Tryz.prog 8 #[pt wb, opV k on a b cc d W S] w fun e w' => ∃ gv' D' bs', e = .returned (.bool true) ∧ bs'.size ≤ maxLen ∧ Plays w' wb gv' (.string bs') D' (c + 1) ∧ Left w w' (pOwn wb gv D) (pOwn wb gv' D') := by
  have old : ∀ (hq : Calls Tryz.prog 8 #[pt wb, opV k on a b cc d W S] w fun e w' => ∃ gv' D', e = .returned (.bool true) ∧ Plays w' wb gv' (.string bs) D' (c + 1) ∧ Left w w' (pOwn wb gv D) (pOwn wb gv' D')), Calls Tryz.prog 8 #[pt wb, opV k on a b cc d W S] w fun e w' => ∃ gv' D' bs', e = .returned (.bool true) ∧ bs'.size ≤ maxLen ∧ Plays w' wb gv' (.string bs') D' (c + 1) ∧ Left w w' (pOwn wb gv D) (pOwn wb gv' D') := fun hq =>
    hq.mono (fun e w' ⟨gv', D', q1, q2, q3⟩ => ⟨gv', D', bs, q1, hbs, q2, q3⟩)
  by_cases e1 : k ≤ 12
  · exact old (step_old w wb gv (.string bs) D c h hc k on a b cc d W S e1 hon ha hcc)
  by_cases e2 : D.length = 0
  · exact old (stepNone_any w wb gv (.string bs) D c h on a b cc d W S k (by omega) e2)
  obtain ⟨sb, rfl, hsb⟩ := hS
  exact stepSaves_any w wb gv bs D c h on a b cc d W sb k (by omega) k15 hon ha hc e2 hbs hsb

/-- A step as data. -/
structure OpD where
  k : Int
  on : Int
  a : Int
  b : Int
  c : Int
  d : Int
  W : Bool
  S : Value

/-- A step lies at a place. -/
structure OpAt (w : World) (bb oo : Nat) (o : OpD) : Prop where
  c0 : w.cell? ⟨bb, oo, none⟩ = some (.int .i64 o.k)
  c1 : w.cell? ⟨bb, oo + 1, none⟩ = some (.int .i64 o.on)
  c2 : w.cell? ⟨bb, oo + 2, none⟩ = some (.int .i64 o.a)
  c3 : w.cell? ⟨bb, oo + 3, none⟩ = some (.int .i64 o.b)
  c4 : w.cell? ⟨bb, oo + 4, none⟩ = some (.int .i64 o.c)
  c5 : w.cell? ⟨bb, oo + 5, none⟩ = some (.int .i64 o.d)
  c6 : w.cell? ⟨bb, oo + 6, none⟩ = some (.bool o.W)
  c7 : w.cell? ⟨bb, oo + 7, none⟩ = some o.S
  on64 : In64 o.on
  a64 : In64 o.a
  c64 : In64 o.c
  str : ∃ sb : ByteArray, o.S = .string sb ∧ sb.size ≤ maxLen

theorem OpAt.only {w w' : World} {T : Nat → Prop} {bb oo : Nat} {o : OpD} (h : OpAt w bb oo o) (q : Only T w w') (hb : ¬ T bb) : OpAt w' bb oo o :=
  ⟨q.keep hb h.c0, q.keep hb h.c1, q.keep hb h.c2, q.keep hb h.c3, q.keep hb h.c4, q.keep hb h.c5, q.keep hb h.c6, q.keep hb h.c7, h.on64, h.a64, h.c64, h.str⟩

def noB : Value := .string { data := #[] }
def firstL : List OpD := [⟨1, 0, 12, 0, 0, 0, false, noB⟩, ⟨3, 0, 0, 0, 0, 0, false, noB⟩, ⟨5, 0, 1, 9, 0, 0, true, noB⟩, ⟨2, 0, 0, 0, 0, 0, false, noB⟩, ⟨5, 0, 1, 10, 0, 0, false, noB⟩, ⟨6, 0, 1, 10, 0, 0, false, noB⟩, ⟨8, 0, 1, 75, 7, 0, false, noB⟩, ⟨7, 0, 1, 75, 0, 0, false, noB⟩, ⟨9, 0, 1, 9, 1, 0, true, noB⟩, ⟨11, 0, 1, 3, 0, 0, false, noB⟩, ⟨12, 0, 1, 3, 8, 0, false, noB⟩, ⟨10, 0, 1, 0, 0, 0, false, noB⟩, ⟨13, 0, 1, 0, 0, 0, false, noB⟩, ⟨14, 0, 0, 0, 0, 0, false, noB⟩, ⟨15, 0, 0, 0, 0, 0, false, noB⟩]
def opFlat : List OpD → List Value
  | [] => []
  | o :: L => .int .i64 o.k :: .int .i64 o.on :: .int .i64 o.a :: .int .i64 o.b :: .int .i64 o.c :: .int .i64 o.d :: .bool o.W :: o.S :: opFlat L
def firstC : Array Value := (opFlat firstL).toArray

theorem opFlat_at : ∀ {L : List OpD} {i : Nat} {o : OpD}, L[i]? = some o → (opFlat L)[i * 8]? = some (.int .i64 o.k) ∧ (opFlat L)[i * 8 + 1]? = some (.int .i64 o.on) ∧ (opFlat L)[i * 8 + 2]? = some (.int .i64 o.a) ∧ (opFlat L)[i * 8 + 3]? = some (.int .i64 o.b) ∧ (opFlat L)[i * 8 + 4]? = some (.int .i64 o.c) ∧ (opFlat L)[i * 8 + 5]? = some (.int .i64 o.d) ∧ (opFlat L)[i * 8 + 6]? = some (.bool o.W) ∧ (opFlat L)[i * 8 + 7]? = some o.S
  | y :: L, 0, x, h => by
    simp only [List.getElem?_cons_zero, Option.some.injEq] at h
    subst h
    exact ⟨rfl, rfl, rfl, rfl, rfl, rfl, rfl, rfl⟩
  | y :: L, i + 1, x, h => by
    rw [List.getElem?_cons_succ] at h
    have := opFlat_at h
    rw [show (i + 1) * 8 = i * 8 + 8 by omega]
    simpa [opFlat] using this

theorem first_bd : ∀ o ∈ firstL, (0 ≤ o.on ∧ o.on ≤ 100) ∧ (0 ≤ o.a ∧ o.a ≤ 100) ∧ 0 ≤ o.c ∧ o.c ≤ 100 := by decide
theorem first_str : ∀ o ∈ firstL, o.S = noB := by
  intro o ho
  simp only [firstL, List.mem_cons, List.not_mem_nil, or_false] at ho
  rcases ho with rfl | rfl | rfl | rfl | rfl | rfl | rfl | rfl | rfl | rfl | rfl | rfl | rfl | rfl | rfl <;> rfl
theorem firstL_len : firstL.length = 15 := rfl

theorem first_at {w : World} {i : Nat} (hi : i < 15) : OpAt ((w.alloc (.cells #[.slice none 0 0, noB] 28)).alloc (.cells firstC 30)) (w.heap.size + 1) (i * 8) (firstL[i]'(by rw [firstL_len]; exact hi)) := by
  have hq : ∀ j, ((w.alloc (.cells #[.slice none 0 0, noB] 28)).alloc (.cells firstC 30)).cell? ⟨w.heap.size + 1, j, none⟩ = (opFlat firstL)[j]? := fun j => by
    have q := Only.laid (w := w.alloc (.cells #[.slice none 0 0, noB] 28)) (c := firstC) (t := 30) (Only.refl Nob _) (fun q => q) j
    rw [World.size_alloc] at q
    rw [q, firstC, List.getElem?_toArray]
  obtain ⟨h0, h1, h2, h3, h4, h5, h6, h7⟩ := opFlat_at (List.getElem?_eq_getElem (l := firstL) (i := i) (by rw [firstL_len]; exact hi))
  have hb := first_bd (firstL[i]'(by rw [firstL_len]; exact hi)) (List.getElem_mem _)
  exact ⟨by rw [hq, h0], by rw [hq, h1], by rw [hq, h2], by rw [hq, h3], by rw [hq, h4], by rw [hq, h5], by rw [hq, h6], by rw [hq, h7], ⟨by omega, by omega⟩, ⟨by omega, by omega⟩, ⟨by omega, by omega⟩, ⟨{ data := #[] }, first_str _ (List.getElem_mem _), by show 0 ≤ maxLen; exact Nat.zero_le _⟩⟩

structure Runs (w wr : World) (wb fb : Nat) (gv : Value) (D : List Mc) (c : Nat) : Prop where
  plays : ∃ bs : ByteArray, bs.size ≤ maxLen ∧ Plays wr wb gv (.string bs) D c
  new : ∀ b, pOwn wb gv D b → w.heap.size ≤ b ∧ b ≠ fb
  only : Only Nob w wr
  fl : fb < wr.heap.size
  first : ∀ i, (hi : i < 15) → OpAt wr fb (i * 8) (firstL[i]'(by rw [firstL_len]; exact hi))

theorem Runs.step {w wr w' : World} {wb fb c : Nat} {gv gv' : Value} {D D' : List Mc} (h : Runs w wr wb fb gv D c) {bs' : ByteArray} (hbs : bs'.size ≤ maxLen) (hp : Plays w' wb gv' (.string bs') D' (c + 1)) (hl : Left wr w' (pOwn wb gv D) (pOwn wb gv' D')) : Runs w w' wb fb gv' D' (c + 1) := by
  have hs := h.only.size
  refine ⟨⟨bs', hbs, hp⟩, fun b hb => ?_, ?_, Nat.lt_of_lt_of_le h.fl hl.only.size, fun i hi => (h.first i hi).only hl.only (fun q => (h.new fb q).2 rfl)⟩
  · rcases hl.ext b hb with q | q
    · exact h.new b q
    · exact ⟨by omega, by have := h.fl; omega⟩
  · exact h.only.after hl.only (fun b hb q => by have := (h.new b q).1; omega)
theorem Runs.mono {w wr : World} {wb fb c c' : Nat} {gv : Value} {D : List Mc} (h : Runs w wr wb fb gv D c) (hc : c ≤ c') : Runs w wr wb fb gv D c' := ⟨(by obtain ⟨bs, q1, q2⟩ := h.plays; exact ⟨bs, q1, q2.mono hc⟩), h.new, h.only, h.fl, h.first⟩

theorem Runs.start (w : World) : Runs w ((w.alloc (.cells #[.slice none 0 0, noB] 28)).alloc (.cells firstC 30)) w.heap.size (w.heap.size + 1) (.slice none 0 0) [] 0 := by
  have r := World.rowIs_alloc w #[.slice none 0 0, noB] 28 (wldCell (.slice none 0 0) noB) (fun i hi => by
    have hi : i < 2 := hi
    have e : i = 0 ∨ i = 1 := by omega
    rcases e with e | e <;> subst e <;> rfl)
  refine ⟨⟨{ data := #[] }, Nat.zero_le _, ⟨⟨28, r.alloc _⟩, World.ownsRow_nil _ _ _ _, fun x hx => (by cases hx), fun x hx => (by cases hx), by simp [Value.ownBlock], List.Pairwise.nil, by simp⟩⟩, fun b hb => ?_, ((Only.refl Nob w).alloc _).alloc _, by simp, fun i hi => first_at hi⟩
  rcases hb with rfl | q | ⟨x, hx, _⟩
  · exact ⟨Nat.le_refl _, by omega⟩
  · simp [Value.ownBlock] at q
  · cases hx

set_option maxRecDepth 100000 in
set_option maxHeartbeats 4000000 in
theorem played_any (w : World) (sa : Option Addr) (len cap : Nat) (O : Nat → OpD) (last : Int) (hlast : last ≤ 15) (hlen : len ≤ 10000000000000)
    (hS : ∀ j, j < len → ∃ bb oo, sa = some ⟨bb, oo, none⟩ ∧ OpAt w bb (oo + j * 8) (O j)) :
    Calls Tryz.prog 7 #[.slice sa len cap, .int .i64 last] w fun e w' => e = .returned (.bool true) ∧ Below w.heap.size w w' := by
  have HS := hid hS
  clear hS
  go_enter Tryz.func7, Tryz.ntmps7
  go_wp2_with fail
  go_loopw [7, 8] (fun s7 s8 wr => s7 = .bool true ∧ ∃ (i : Nat) (gv : Value) (D : List Mc), i ≤ 15 ∧ s8 = .int .i64 i ∧ Runs w wr w.heap.size (w.heap.size + 1) gv D i) (fun _ s8 _ => 15 - (intOf s8).toNat)
  case atStart => exact ⟨rfl, 0, .slice none 0 0, [], by omega, rfl, Runs.start w⟩
  case round =>
    rename World => wr
    obtain ⟨rfl, i, gv, D, hi, rfl, hR⟩ := hrel
    by_cases hlt : i < 15
    · have hO := hR.first i hlt
      have HR := hid hR
      clear hR
      obtain ⟨o, ho⟩ : ∃ o, o = firstL[i]'(by rw [firstL_len]; exact hlt) := ⟨_, rfl⟩
      rw [← ho] at hO
      clear ho
      obtain ⟨c0, c1, c2, c3, c4, c5, c6, c7, on64, a64, c64, hst⟩ := hO
      have HST := hid hst
      obtain ⟨bs, hbs, hpl⟩ := HR.out.plays
      have HPL := hid (And.intro hbs hpl)
      clear hst hbs hpl
      by_cases hk : o.k ≤ last
      · go_wp2_with fail
        refine (step_any _ _ gv bs D i HPL.out.2 HPL.out.1 (by unfold big; omega) o.k o.on o.a o.b o.c o.d o.W o.S HST.out (by omega) on64 a64 c64).mono ?_
        rintro e w2 ⟨gv', D', bs', rfl, hB, hP, hL⟩
        have HR2 := hid (HR.out.step hB hP hL)
        clear hP hL hB
        go_wp2
        go_roundw
        case rel => exact ⟨rfl, i + 1, gv', D', by omega, by go_num, HR2.out⟩
        case measure => simp [intOf]; omega
      · go_wp2
        go_roundw
        case rel => exact ⟨rfl, i + 1, gv, D, by omega, by go_num, HR.out.mono (Nat.le_succ i)⟩
        case measure => simp [intOf]; omega
    · have HR := hid hR
      clear hR
      have hi15 : ¬ (i : Int) < 15 := by omega
      go_wp2
      go_loopw [7, 9] (fun s7 s9 wx => s7 = .bool true ∧ ∃ (j : Nat) (gv : Value) (D : List Mc), j ≤ len ∧ s9 = .int .i64 j ∧ Runs w wx w.heap.size (w.heap.size + 1) gv D (i + j)) (fun _ s9 _ => len - (intOf s9).toNat)
      case atStart => exact ⟨rfl, 0, gv, D, by omega, rfl, HR.out⟩
      case round =>
        clear HR
        rename World => wx
        obtain ⟨rfl, j, gv, D, hj, rfl, hR⟩ := hrel
        by_cases hlt2 : j < len
        · obtain ⟨bb, oo, rfl, hO⟩ := HS.out j hlt2
          have hO := hO.only hR.only (fun q => q)
          have HR := hid hR
          clear hR
          have hj2 : (j : Int) < (len : Int) := by omega
          generalize O j = o at *
          obtain ⟨c0, c1, c2, c3, c4, c5, c6, c7, on64, a64, c64, hst⟩ := hO
          have HST := hid hst
          obtain ⟨bs, hbs, hpl⟩ := HR.out.plays
          have HPL := hid (And.intro hbs hpl)
          clear hst hbs hpl
          by_cases hk : o.k ≤ last
          · go_wp2_with fail
            refine (step_any _ _ gv bs D (i + j) HPL.out.2 HPL.out.1 (by unfold big; omega) o.k o.on o.a o.b o.c o.d o.W o.S HST.out (by omega) on64 a64 c64).mono ?_
            rintro e w2 ⟨gv', D', bs', rfl, hB, hP, hL⟩
            have HR2 := hid (HR.out.step hB hP hL)
            clear hP hL hB
            go_wp2
            go_roundw
            case rel => exact ⟨rfl, j + 1, gv', D', by omega, by go_num, HR2.out⟩
            case measure => simp [intOf]; omega
          · go_wp2
            go_roundw
            case rel => exact ⟨rfl, j + 1, gv, D, by omega, by go_num, HR.out.mono (by omega)⟩
            case measure => simp [intOf]; omega
        · have HR := hid hR
          clear hR
          have hj2 : ¬ (j : Int) < (len : Int) := by omega
          go_wp2
          go_ret
          exact ⟨rfl, HR.out.only.below (fun _ _ q => q)⟩
end Go.Proofs.YtfcepnhknmbaaaaGreat

/- A script that came in, as the law's walk is told of it; and the bodies of Pages and Reads. -/
namespace Go.Proofs.YtfcepnhknmbaaaaGreat
open Go.RowKit Go.Deep Go.ChangeShapes Go.WideShapes

theorem op_cells : Tryz.prog.cellsOf 30 = 8 := by kernel_rfl
theorem op_c3 : Tryz.prog.cellsOf 3 = 1 := by kernel_rfl
theorem op_c4 : Tryz.prog.cellsOf 4 = 1 := by kernel_rfl
theorem op_c9 : Tryz.prog.cellsOf 9 = 1 := by kernel_rfl
theorem op_bytes : Tryz.prog.bytesOf 30 = 72 := by kernel_rfl

theorem list8 {cs : List Value} (h : cs.length = 8) : ∃ v0 v1 v2 v3 v4 v5 v6 v7, cs = [v0, v1, v2, v3, v4, v5, v6, v7] := by
  match cs, h with
  | [v0, v1, v2, v3, v4, v5, v6, v7], _ => exact ⟨v0, v1, v2, v3, v4, v5, v6, v7, rfl⟩

set_option maxRecDepth 100000 in
theorem op_open {H : Type} {enc : TypeId × Value → H} {W : World} {base : Nat} {spare : Nat → Bool} {held : Bool} {n : Nat} {a : Addr} {i : Nat} {cs : List Value} {x : DataW H × List MemPlace}
    (h1 : W.cells? base (a.add (i * Tryz.prog.cellsOf 30)) (Tryz.prog.cellsOf 30) = some cs) (h2 : DataW.trod enc Tryz.prog W base spare held n 30 cs = some x) :
    ∃ o : OpD, ∀ b off, a = ⟨b, off, none⟩ → OpAt W b (off + i * 8) o := by
  rw [op_cells] at h1
  obtain ⟨_, hlen, hcell⟩ := World.cells?_some h1
  obtain ⟨xs, k, hk, hxy, _, hxl, hf⟩ := DataW.trod_struct Tryz.underlying30 h2
  have hx8 : xs.length = 8 := hxl
  obtain ⟨v0, v1, v2, v3, v4, v5, v6, v7, rfl⟩ := list8 hlen
  have g0 : DataW.trod enc Tryz.prog W base spare held k 3 [v0] = xs[0]? := by
    have q : DataW.trod enc Tryz.prog W base spare held k 3 (([v0, v1, v2, v3, v4, v5, v6, v7].drop 0).take (Tryz.prog.cellsOf 3)) = xs[0]? := hf 0 _ rfl
    rw [op_c3] at q
    exact q
  have g1 : DataW.trod enc Tryz.prog W base spare held k 3 [v1] = xs[1]? := by
    have q : DataW.trod enc Tryz.prog W base spare held k 3 (([v0, v1, v2, v3, v4, v5, v6, v7].drop 1).take (Tryz.prog.cellsOf 3)) = xs[1]? := hf 1 _ rfl
    rw [op_c3] at q
    exact q
  have g2 : DataW.trod enc Tryz.prog W base spare held k 3 [v2] = xs[2]? := by
    have q : DataW.trod enc Tryz.prog W base spare held k 3 (([v0, v1, v2, v3, v4, v5, v6, v7].drop 2).take (Tryz.prog.cellsOf 3)) = xs[2]? := hf 2 _ rfl
    rw [op_c3] at q
    exact q
  have g3 : DataW.trod enc Tryz.prog W base spare held k 3 [v3] = xs[3]? := by
    have q : DataW.trod enc Tryz.prog W base spare held k 3 (([v0, v1, v2, v3, v4, v5, v6, v7].drop 3).take (Tryz.prog.cellsOf 3)) = xs[3]? := hf 3 _ rfl
    rw [op_c3] at q
    exact q
  have g4 : DataW.trod enc Tryz.prog W base spare held k 3 [v4] = xs[4]? := by
    have q : DataW.trod enc Tryz.prog W base spare held k 3 (([v0, v1, v2, v3, v4, v5, v6, v7].drop 4).take (Tryz.prog.cellsOf 3)) = xs[4]? := hf 4 _ rfl
    rw [op_c3] at q
    exact q
  have g5 : DataW.trod enc Tryz.prog W base spare held k 3 [v5] = xs[5]? := by
    have q : DataW.trod enc Tryz.prog W base spare held k 3 (([v0, v1, v2, v3, v4, v5, v6, v7].drop 5).take (Tryz.prog.cellsOf 3)) = xs[5]? := hf 5 _ rfl
    rw [op_c3] at q
    exact q
  have g6 : DataW.trod enc Tryz.prog W base spare held k 4 [v6] = xs[6]? := by
    have q : DataW.trod enc Tryz.prog W base spare held k 4 (([v0, v1, v2, v3, v4, v5, v6, v7].drop 6).take (Tryz.prog.cellsOf 4)) = xs[6]? := hf 6 _ rfl
    rw [op_c4] at q
    exact q
  have g7 : DataW.trod enc Tryz.prog W base spare held k 9 [v7] = xs[7]? := by
    have q : DataW.trod enc Tryz.prog W base spare held k 9 (([v0, v1, v2, v3, v4, v5, v6, v7].drop 7).take (Tryz.prog.cellsOf 9)) = xs[7]? := hf 7 _ rfl
    rw [op_c9] at q
    exact q
  rw [List.getElem?_eq_getElem (by omega)] at g0 g1 g2 g3 g4 g5 g6 g7
  obtain ⟨z0, e0, _, _⟩ := DataW.trod_int Tryz.underlying3 g0
  obtain ⟨z1, e1, _, q1⟩ := DataW.trod_int Tryz.underlying3 g1
  obtain ⟨z2, e2, _, q2⟩ := DataW.trod_int Tryz.underlying3 g2
  obtain ⟨z3, e3, _, _⟩ := DataW.trod_int Tryz.underlying3 g3
  obtain ⟨z4, e4, _, q4⟩ := DataW.trod_int Tryz.underlying3 g4
  obtain ⟨z5, e5, _, _⟩ := DataW.trod_int Tryz.underlying3 g5
  obtain ⟨z6, e6, _⟩ := DataW.trod_bool Tryz.underlying4 g6
  obtain ⟨z7, e7, _, q7⟩ := DataW.trod_string Tryz.underlying9 g7
  simp only [List.cons.injEq, and_true] at e0 e1 e2 e3 e4 e5 e6 e7
  subst e0 e1 e2 e3 e4 e5 e6 e7
  refine ⟨⟨z0, z1, z2, z3, z4, z5, z6, .string z7⟩, fun b off ha => ?_⟩
  subst ha
  have hq : ∀ j, j < 8 → W.cell? ⟨b, off + i * 8 + j, none⟩ = [Value.int .i64 z0, .int .i64 z1, .int .i64 z2, .int .i64 z3, .int .i64 z4, .int .i64 z5, .bool z6, .string z7][j]? := fun j hj => by
    have := hcell j hj
    rw [add_add, add_plain] at this
    rw [Nat.add_assoc]
    exact this
  exact ⟨hq 0 (by omega), hq 1 (by omega), hq 2 (by omega), hq 3 (by omega), hq 4 (by omega), hq 5 (by omega), hq 6 (by omega), hq 7 (by omega), bounds_i64 q1, bounds_i64 q2, bounds_i64 q4, ⟨z7, rfl, q7⟩⟩

/-- What the walk is told of the script. -/
def Script (w : World) (sa : Option Addr) (len : Nat) : Prop := len ≤ 10000000000000 ∧ ∃ O : Nat → OpD, ∀ j, j < len → ∃ bb oo, sa = some ⟨bb, oo, none⟩ ∧ OpAt w bb (oo + j * 8) (O j)

theorem pages_walk (w : World) (sa : Option Addr) (len cap : Nat) (h : Script w sa len) :
    Calls Tryz.prog 3 #[.slice sa len cap] w fun e w' => e = .returned (.bool true) ∧ Below w.heap.size w w' := by
  obtain ⟨hl, O, hO⟩ := h
  have HO := hid hO
  clear hO
  go_enter Tryz.func3, Tryz.ntmps3
  go_wp2_with fail
  refine (played_any _ sa len cap O 6 (by omega) hl HO.out).mono ?_
  rintro e w1 ⟨rfl, hb⟩
  have HB := hid hb
  clear hb
  go_wp2
  go_ret
  exact ⟨rfl, HB.out⟩

theorem reads_walk (w : World) (sa : Option Addr) (len cap : Nat) (h : Script w sa len) :
    Calls Tryz.prog 4 #[.slice sa len cap] w fun e w' => e = .returned (.bool true) ∧ Below w.heap.size w w' := by
  obtain ⟨hl, O, hO⟩ := h
  have HO := hid hO
  clear hO
  go_enter Tryz.func4, Tryz.ntmps4
  go_wp2_with fail
  refine (played_any _ sa len cap O 8 (by omega) hl HO.out).mono ?_
  rintro e w1 ⟨rfl, hb⟩
  have HB := hid hb
  clear hb
  go_wp2
  go_ret
  exact ⟨rfl, HB.out⟩

theorem turns_walk (w : World) (sa : Option Addr) (len cap : Nat) (h : Script w sa len) :
    Calls Tryz.prog 5 #[.slice sa len cap] w fun e w' => e = .returned (.bool true) ∧ Below w.heap.size w w' := by
  obtain ⟨hl, O, hO⟩ := h
  have HO := hid hO
  clear hO
  go_enter Tryz.func5, Tryz.ntmps5
  go_wp2_with fail
  refine (played_any _ sa len cap O 12 (by omega) hl HO.out).mono ?_
  rintro e w1 ⟨rfl, hb⟩
  have HB := hid hb
  clear hb
  go_wp2
  go_ret
  exact ⟨rfl, HB.out⟩

theorem all_walk (w : World) (sa : Option Addr) (len cap : Nat) (h : Script w sa len) :
    Calls Tryz.prog 6 #[.slice sa len cap] w fun e w' => e = .returned (.bool true) ∧ Below w.heap.size w w' := by
  obtain ⟨hl, O, hO⟩ := h
  have HO := hid hO
  clear hO
  go_enter Tryz.func6, Tryz.ntmps6
  go_wp2_with fail
  refine (played_any _ sa len cap O 15 (by omega) hl HO.out).mono ?_
  rintro e w1 ⟨rfl, hb⟩
  have HB := hid hb
  clear hb
  go_wp2
  go_ret
  exact ⟨rfl, HB.out⟩
end Go.Proofs.YtfcepnhknmbaaaaGreat
