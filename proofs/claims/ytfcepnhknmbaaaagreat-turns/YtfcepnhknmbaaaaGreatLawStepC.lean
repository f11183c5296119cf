/- The law's step: a kind that is none. -/
import Derived.Test.YtfcepnhknmbaaaaGreatLawStep
import Derived.Deep.RegionHeld3
namespace Go.Proofs.YtfcepnhknmbaaaaGreat
open Go.RowKit Go.Deep
section
variable (w : World) (wb : Nat) (gv S0 : Value) (D : List Mc) (c : Nat) (h : Plays w wb gv S0 D c) (on a b cc d : Int) (W : Bool) (S : Value)

set_option maxRecDepth 100000 in
set_option maxHeartbeats 4000000 in
include h in
theorem stepElse_any (k : Int) (k1 : k ≤ 0) (hon : In64 on) (hl : D.length ≠ 0) :
    Calls Tryz.prog 8 #[pt wb, opV k on a b cc d W S] w fun e w' => ∃ gv' D', e = .returned (.bool true) ∧ Plays w' wb gv' S0 D' (c + 1) ∧ Left w w' (pOwn wb gv D) (pOwn wb gv' D') := by
  have ho : Only Nob w (bx1 w k on a b cc d W S) := (Only.refl _ _).alloc _
  have H := hid h
  have hbd := pickI_bd on D.length (by omega)
  obtain ⟨i, hpi⟩ : ∃ i : Nat, pickI on D.length = (i : Int) := ⟨(pickI on D.length).toNat, by omega⟩
  have hiD : i < D.length := by omega
  have hle := h.le
  have hp := h.nob ho
  obtain ⟨sb, cap, hgv, x1, x2⟩ := hp.at' hiD
  have c0 := hp.c0
  rw [hgv] at c0
  have HON : (bx1 w k on a b cc d W S).cell? ⟨w.heap.size, 1, none⟩ = some (.int .i64 on) := Only.laid (w := w) (c := #[.int .i64 k, .int .i64 on, .int .i64 a, .int .i64 b, .int .i64 cc, .int .i64 d, .bool W, S]) (t := 30) (Only.refl Nob _) (fun q => q) 1
  have n1 := World.new_ne _ _ c0
  have n2 := World.new_ne _ _ x1
  have n3 := World.new_ne _ _ x2
  have n4 := World.new_ne _ _ HON
  have HPI := hid hpi
  clear h ho hgv hp hbd hpi
  have hk1 : k ≠ 1 := by omega
  have hk2 : ¬ 2 ≤ k := by omega
  have hk3 : (k == 7) = false := by simp; omega
  have hk4 : (k == 8) = false := by simp; omega
  have hk5 : ¬ 9 ≤ k := by omega
  have hk6 : ¬ 13 ≤ k := by omega
  have i0 : (0 : Int) ≤ (i : Int) := by omega
  have i1 : (i : Int) < (D.length : Int) := by omega
  have ho2 : Only Nob w ((bx1 w k on a b cc d W S).alloc (.cells #[pt D[i].mb, pt D[i].rb] 35)).drew := (((Only.refl _ _).alloc _).alloc _).drew
  have HP := hid (H.out.nob ho2)
  have HO2 := hid ho2
  have HD := hid (HP.out.duo D[i] (List.getElem_mem hiD))
  clear ho2
  generalize hmb : D[i].mb = mb at *
  generalize hrb : D[i].rb = rb at *
  have HMB := hid (And.intro hmb hrb)
  clear hmb hrb
  unfold opV
  unfold bx1 at *
  go_enter Tryz.func8, Tryz.ntmps8
  go_wp2_with fail
  go_region_held3 (fun w' => w'.cell? ⟨wb, 0, none⟩ = some (.slice (some ⟨sb, 0, none⟩) D.length cap) ∧ w'.cell? ⟨w.heap.size, 1, none⟩ = some (.int .i64 on) ∧ w'.cell? ⟨sb, i * 2, none⟩ = some (pt mb) ∧ w'.cell? ⟨sb, i * 2 + 1, none⟩ = some (pt rb)) (go_keep)
    (first | (go_at_call 10; refine (lpick_any _ on D.length hon.1 hon.2 (by omega) (by omega)).mono ?_; rintro e w1 ⟨rfl, rfl⟩; rw [HPI.out]))
  all_goals
    clear x1 x2 c0 HON n1 n2 n3 n4
    go_wp2
    go_ret
    exact ⟨rfl, gv, D, HP.out.mono (Nat.le_succ c), ⟨HO2.out.of_nob, fun _ q => Or.inl q⟩⟩

end
end Go.Proofs.YtfcepnhknmbaaaaGreat
