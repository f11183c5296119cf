/- The law's step: one kind after another. -/
import Derived.Test.YtfcepnhknmbaaaaGreatLawStep
import Derived.Deep.RegionHeld3
namespace Go.Proofs.YtfcepnhknmbaaaaGreat
open Go.RowKit Go.Deep

section
variable (w : World) (mb rb : Nat) (own : Nat → Prop) (c : Nat) (h : DuoAt w mb rb own c) (on a b cc d : Int) (W : Bool) (S : Value)
include h in
theorem holds_any (hc : c < big) (ha : In64 a) (k : Int) (k1 : 2 ≤ k) (k2 : k ≤ 6) :
    Calls Tryz.prog 11 #[mcV mb rb, opV k on a b cc d W S] w fun e w' => e = .returned (.bool true) ∧ ∃ own', DuoAt w' mb rb own' (c + 1) ∧ Left w w' own own' := by
  have e : k = 2 ∨ k = 3 ∨ k = 4 ∨ k = 5 ∨ k = 6 := by omega
  rcases e with rfl | rfl | rfl | rfl | rfl
  · exact holdsFree_any w mb rb own c h on a b cc d W S
  · exact holdsCreate_any w mb rb own c h on a b cc d W S hc
  · exact holdsDestroy_any w mb rb own c h on a b cc d W S ha
  · exact holdsMap_any w mb rb own c h on a b cc d W S hc ha
  · exact holdsUnmap_any w mb rb own c h on a b cc d W S hc ha 6 (by decide) (by decide) (by decide) (by decide)
include h in
theorem reads_any (hc : c < big) (ha : In64 a) (k : Int) (k1 : 7 ≤ k) (k2 : k ≤ 8) :
    Calls Tryz.prog 12 #[mcV mb rb, opV k on a b cc d W S] w fun e w' => e = .returned (.bool true) ∧ ∃ own', DuoAt w' mb rb own' (c + 1) ∧ Left w w' own own' := by
  have e : k = 7 ∨ k = 8 := by omega
  rcases e with rfl | rfl
  · exact readsRead_any w mb rb own c h on a b cc d W S hc ha
  · exact readsWrite_any w mb rb own c h on a b cc d W S hc ha 8 (by decide)
end

section
variable (w : World) (wb : Nat) (gv S0 : Value) (D : List Mc) (c : Nat) (h : Plays w wb gv S0 D c) (on a b cc d : Int) (W : Bool) (S : Value)

set_option maxRecDepth 100000 in
set_option maxHeartbeats 4000000 in
include h in
theorem stepHolds_any (k : Int) (k1 : 2 ≤ k) (k2 : k ≤ 6) (hon : In64 on) (ha : In64 a) (hc : c < big) (hl : D.length ≠ 0) :
    Calls Tryz.prog 8 #[pt wb, opV k on a b cc d W S] w fun e w' => ∃ gv' D', e = .returned (.bool true) ∧ Plays w' wb gv' S0 D' (c + 1) ∧ Left w w' (pOwn wb gv D) (pOwn wb gv' D') := by
  have ho : Only Nob w (bx1 w k on a b cc d W S) := (Only.refl _ _).alloc _
  have H := hid h
  have hbd := pickI_bd on D.length (by omega)
  obtain ⟨i, hpi⟩ : ∃ i : Nat, pickI on D.length = (i : Int) := ⟨(pickI on D.length).toNat, by omega⟩
  have hiD : i < D.length := by omega
  have hle := h.le
  have hp := h.nob ho
  obtain ⟨sb, cap, hgv, x1, x2⟩ := hp.at' hiD
  have c0 := hp.c0
  rw [hgv] at c0
  have HON : (bx1 w k on a b cc d W S).cell? ⟨w.heap.size, 1, none⟩ = some (.int .i64 on) := Only.laid (w := w) (c := #[.int .i64 k, .int .i64 on, .int .i64 a, .int .i64 b, .int .i64 cc, .int .i64 d, .bool W, S]) (t := 30) (Only.refl Nob _) (fun q => q) 1
  have n1 := World.new_ne _ _ c0
  have n2 := World.new_ne _ _ x1
  have n3 := World.new_ne _ _ x2
  have n4 := World.new_ne _ _ HON
  have HPI := hid hpi
  clear h ho hgv hp hbd hpi
  have hk1 : k ≠ 1 := by omega
  have i0 : (0 : Int) ≤ (i : Int) := by omega
  have i1 : (i : Int) < (D.length : Int) := by omega
  have ho2 : Only Nob w ((bx1 w k on a b cc d W S).alloc (.cells #[pt D[i].mb, pt D[i].rb] 35)).drew := (((Only.refl _ _).alloc _).alloc _).drew
  have HP := hid (H.out.nob ho2)
  have HO2 := hid ho2
  have HD := hid (HP.out.duo D[i] (List.getElem_mem hiD))
  clear ho2
  generalize hmb : D[i].mb = mb at *
  generalize hrb : D[i].rb = rb at *
  have HMB := hid (And.intro hmb hrb)
  clear hmb hrb
  unfold opV
  unfold bx1 at *
  go_enter Tryz.func8, Tryz.ntmps8
  go_wp2_with fail
  go_region_held3 (fun w' => w'.cell? ⟨wb, 0, none⟩ = some (.slice (some ⟨sb, 0, none⟩) D.length cap) ∧ w'.cell? ⟨w.heap.size, 1, none⟩ = some (.int .i64 on) ∧ w'.cell? ⟨sb, i * 2, none⟩ = some (pt mb) ∧ w'.cell? ⟨sb, i * 2 + 1, none⟩ = some (pt rb)) (go_keep)
    (first | (go_at_call 10; refine (lpick_any _ on D.length hon.1 hon.2 (by omega) (by omega)).mono ?_; rintro e w1 ⟨rfl, rfl⟩; rw [HPI.out]))
  all_goals
    clear x1 x2 c0 HON n1 n2 n3 n4
    go_wp2_with fail
    refine (holds_any _ mb rb _ c HD.out on a b cc d W S hc ha k k1 k2).mono ?_
    rintro e w2 ⟨rfl, own', hD2, hL2⟩
    go_wp2
    go_ret
    obtain ⟨q1, q2⟩ := HMB.out
    rw [← q1, ← q2] at hD2
    obtain ⟨D', t1, t2⟩ := HP.out.turn hiD hD2 hL2
    exact ⟨gv, D', rfl, t1, Left.after HO2.out t2⟩

set_option maxRecDepth 100000 in
set_option maxHeartbeats 4000000 in
include h in
theorem stepReads7_any (hon : In64 on) (ha : In64 a) (hc : c < big) (hl : D.length ≠ 0) :
    Calls Tryz.prog 8 #[pt wb, opV 7 on a b cc d W S] w fun e w' => ∃ gv' D', e = .returned (.bool true) ∧ Plays w' wb gv' S0 D' (c + 1) ∧ Left w w' (pOwn wb gv D) (pOwn wb gv' D') := by
  have ho : Only Nob w (bx1 w 7 on a b cc d W S) := (Only.refl _ _).alloc _
  have H := hid h
  have hbd := pickI_bd on D.length (by omega)
  obtain ⟨i, hpi⟩ : ∃ i : Nat, pickI on D.length = (i : Int) := ⟨(pickI on D.length).toNat, by omega⟩
  have hiD : i < D.length := by omega
  have hle := h.le
  have hp := h.nob ho
  obtain ⟨sb, cap, hgv, x1, x2⟩ := hp.at' hiD
  have c0 := hp.c0
  rw [hgv] at c0
  have HON : (bx1 w 7 on a b cc d W S).cell? ⟨w.heap.size, 1, none⟩ = some (.int .i64 on) := Only.laid (w := w) (c := #[.int .i64 7, .int .i64 on, .int .i64 a, .int .i64 b, .int .i64 cc, .int .i64 d, .bool W, S]) (t := 30) (Only.refl Nob _) (fun q => q) 1
  have n1 := World.new_ne _ _ c0
  have n2 := World.new_ne _ _ x1
  have n3 := World.new_ne _ _ x2
  have n4 := World.new_ne _ _ HON
  have HPI := hid hpi
  clear h ho hgv hp hbd hpi
  have i0 : (0 : Int) ≤ (i : Int) := by omega
  have i1 : (i : Int) < (D.length : Int) := by omega
  have ho2 : Only Nob w ((bx1 w 7 on a b cc d W S).alloc (.cells #[pt D[i].mb, pt D[i].rb] 35)).drew := (((Only.refl _ _).alloc _).alloc _).drew
  have HP := hid (H.out.nob ho2)
  have HO2 := hid ho2
  have HD := hid (HP.out.duo D[i] (List.getElem_mem hiD))
  clear ho2
  generalize hmb : D[i].mb = mb at *
  generalize hrb : D[i].rb = rb at *
  have HMB := hid (And.intro hmb hrb)
  clear hmb hrb
  unfold opV
  unfold bx1 at *
  go_enter Tryz.func8, Tryz.ntmps8
  go_wp2_with fail
  go_region_held3 (fun w' => w'.cell? ⟨wb, 0, none⟩ = some (.slice (some ⟨sb, 0, none⟩) D.length cap) ∧ w'.cell? ⟨w.heap.size, 1, none⟩ = some (.int .i64 on) ∧ w'.cell? ⟨sb, i * 2, none⟩ = some (pt mb) ∧ w'.cell? ⟨sb, i * 2 + 1, none⟩ = some (pt rb)) (go_keep)
    (first | (go_at_call 10; refine (lpick_any _ on D.length hon.1 hon.2 (by omega) (by omega)).mono ?_; rintro e w1 ⟨rfl, rfl⟩; rw [HPI.out]))
  all_goals
    clear x1 x2 c0 HON n1 n2 n3 n4
    go_wp2_with fail
    refine (reads_any _ mb rb _ c HD.out on a b cc d W S hc ha 7 (by decide) (by decide)).mono ?_
    rintro e w2 ⟨rfl, own', hD2, hL2⟩
    go_wp2
    go_ret
    obtain ⟨q1, q2⟩ := HMB.out
    rw [← q1, ← q2] at hD2
    obtain ⟨D', t1, t2⟩ := HP.out.turn hiD hD2 hL2
    exact ⟨gv, D', rfl, t1, Left.after HO2.out t2⟩

set_option maxRecDepth 100000 in
set_option maxHeartbeats 4000000 in
include h in
theorem stepReads8_any (hon : In64 on) (ha : In64 a) (hc : c < big) (hl : D.length ≠ 0) :
    Calls Tryz.prog 8 #[pt wb, opV 8 on a b cc d W S] w fun e w' => ∃ gv' D', e = .returned (.bool true) ∧ Plays w' wb gv' S0 D' (c + 1) ∧ Left w w' (pOwn wb gv D) (pOwn wb gv' D') := by
  have ho : Only Nob w (bx1 w 8 on a b cc d W S) := (Only.refl _ _).alloc _
  have H := hid h
  have hbd := pickI_bd on D.length (by omega)
  obtain ⟨i, hpi⟩ : ∃ i : Nat, pickI on D.length = (i : Int) := ⟨(pickI on D.length).toNat, by omega⟩
  have hiD : i < D.length := by omega
  have hle := h.le
  have hp := h.nob ho
  obtain ⟨sb, cap, hgv, x1, x2⟩ := hp.at' hiD
  have c0 := hp.c0
  rw [hgv] at c0
  have HON : (bx1 w 8 on a b cc d W S).cell? ⟨w.heap.size, 1, none⟩ = some (.int .i64 on) := Only.laid (w := w) (c := #[.int .i64 8, .int .i64 on, .int .i64 a, .int .i64 b, .int .i64 cc, .int .i64 d, .bool W, S]) (t := 30) (Only.refl Nob _) (fun q => q) 1
  have n1 := World.new_ne _ _ c0
  have n2 := World.new_ne _ _ x1
  have n3 := World.new_ne _ _ x2
  have n4 := World.new_ne _ _ HON
  have HPI := hid hpi
  clear h ho hgv hp hbd hpi
  have i0 : (0 : Int) ≤ (i : Int) := by omega
  have i1 : (i : Int) < (D.length : Int) := by omega
  have ho2 : Only Nob w ((bx1 w 8 on a b cc d W S).alloc (.cells #[pt D[i].mb, pt D[i].rb] 35)).drew := (((Only.refl _ _).alloc _).alloc _).drew
  have HP := hid (H.out.nob ho2)
  have HO2 := hid ho2
  have HD := hid (HP.out.duo D[i] (List.getElem_mem hiD))
  clear ho2
  generalize hmb : D[i].mb = mb at *
  generalize hrb : D[i].rb = rb at *
  have HMB := hid (And.intro hmb hrb)
  clear hmb hrb
  unfold opV
  unfold bx1 at *
  go_enter Tryz.func8, Tryz.ntmps8
  go_wp2_with fail
  go_region_held3 (fun w' => w'.cell? ⟨wb, 0, none⟩ = some (.slice (some ⟨sb, 0, none⟩) D.length cap) ∧ w'.cell? ⟨w.heap.size, 1, none⟩ = some (.int .i64 on) ∧ w'.cell? ⟨sb, i * 2, none⟩ = some (pt mb) ∧ w'.cell? ⟨sb, i * 2 + 1, none⟩ = some (pt rb)) (go_keep)
    (first | (go_at_call 10; refine (lpick_any _ on D.length hon.1 hon.2 (by omega) (by omega)).mono ?_; rintro e w1 ⟨rfl, rfl⟩; rw [HPI.out]))
  all_goals
    clear x1 x2 c0 HON n1 n2 n3 n4
    go_wp2_with fail
    refine (reads_any _ mb rb _ c HD.out on a b cc d W S hc ha 8 (by decide) (by decide)).mono ?_
    rintro e w2 ⟨rfl, own', hD2, hL2⟩
    go_wp2
    go_ret
    obtain ⟨q1, q2⟩ := HMB.out
    rw [← q1, ← q2] at hD2
    obtain ⟨D', t1, t2⟩ := HP.out.turn hiD hD2 hL2
    exact ⟨gv, D', rfl, t1, Left.after HO2.out t2⟩

end
end Go.Proofs.YtfcepnhknmbaaaaGreat
