/- The law Walked, walked: what is broken is 2. -/
import Derived.Test.YtfcepnhknmbaaaaWalkedBase
namespace Go.Proofs.Ytfcepnhknmbaaaa
open Go.RowKit Go.Deep

set_option maxRecDepth 100000 in
set_option maxHeartbeats 4000000 in
theorem walked_2 (a0 a1 a2 a3 a4 a5 : Int) (w : World) (h0 : In64 a0) (h1 : In64 a1) (h2 : In64 a2) (h3 : In64 a3) (h4 : In64 a4) (h5 : In64 a5) (hk9 : pickI a5 9 = 2) :
    Calls Try.prog 7 #[.int .i64 a0, .int .i64 a1, .int .i64 a2, .int .i64 a3, .int .i64 a4, .int .i64 a5] w fun e w' => e = .returned (.bool true) ∧ Below w.heap.size w w' := by
  have HK9 := hid hk9
  clear hk9
  have b0 := pickI_bd a0 20 (by omega)
  have b1 := pickI_bd a1 20 (by omega)
  have b2 := pickI_bd a2 24 (by omega)
  have b3 := pickI_bd a3 512 (by omega)
  have b4 := pickI_bd a4 65536 (by omega)
  go_enter Try.func7, Try.ntmps7
  go_wp2_with fail
  refine (machine_any _ 16 1 (by omega) (by omega) (by omega) (by omega) (by omega)).mono ?_
  rintro e w1 ⟨mb, A0, rfl, hR0, hI0⟩
  have hI0 : Init A0 16 1 := hI0
  have hO0 := One1.init hR0 hI0
  have HI0 := hid hI0
  have HO0 := hid hO0
  clear hR0 hI0 hO0
  go_wp2_with fail
  refine (pick_any _ a0 20 h0.1 h0.2 (by omega) (by omega)).mono ?_
  rintro e w2 ⟨rfl, rfl⟩
  clear h0
  go_wp2_with fail
  refine (pick_any _ a1 20 h1.1 h1.2 (by omega) (by omega)).mono ?_
  rintro e w2 ⟨rfl, rfl⟩
  clear h1
  go_wp2_with fail
  refine (pick_any _ a2 24 h2.1 h2.2 (by omega) (by omega)).mono ?_
  rintro e w2 ⟨rfl, rfl⟩
  clear h2
  go_wp2_with fail
  refine (pick_any _ a3 512 h3.1 h3.2 (by omega) (by omega)).mono ?_
  rintro e w2 ⟨rfl, rfl⟩
  clear h3
  go_wp2_with fail
  refine (pick_any _ a4 65536 h4.1 h4.2 (by omega) (by omega)).mono ?_
  rintro e w2 ⟨rfl, rfl⟩
  clear h4
  go_wp2_with fail
  refine (pick_any _ a5 9 h5.1 h5.2 (by omega) (by omega)).mono ?_
  rintro e w2 ⟨rfl, rfl⟩
  clear h5
  rw [HK9.out]
  clear HK9
  generalize pickI a0 20 = R at *
  generalize pickI a1 20 = t0 at *
  generalize pickI a2 24 = p0 at *
  generalize pickI a3 512 = a at *
  generalize pickI a4 65536 = v at *
  go_wp2_with fail
  generalize hT : 20 + t0 = T
  generalize hP : 40 + p0 = P
  have hT1 : 20 ≤ T ∧ T < 40 := by omega
  have hP1 : 40 ≤ P ∧ P < 64 := by omega
  clear hT hP b1 b2
  refine (HO0.out.map true (p := R) (by omega) (by omega) (HI0.out.pg 1 _) (by omega) (by omega)).mono ?_
  rintro e w2 ⟨f0, rfl, hO1, _⟩
  have HO1 := hid hO1
  clear hO1
  go_wp2_with fail
  refine (HO1.out.map true (p := T) (by omega) (by omega) (mapped_none (HI0.out.pg 1 _) (by omega)) (by omega) (by omega)).mono ?_
  rintro e w3 ⟨f1, rfl, hO2, hn1⟩
  have HO2 := hid hO2
  have HN1 := hid (show f1 ≠ f0 from fun e => hn1 R.toNat true (by omega) (by rw [e]; exact mapped_some))
  clear hO2 hn1
  go_wp2_with fail
  refine (HO2.out.map true (p := P) (by omega) (by omega) (mapped_none (mapped_none (HI0.out.pg 1 _) (by omega)) (by omega)) (by omega) (by omega)).mono ?_
  rintro e w4 ⟨f2, rfl, hO3, hn2⟩
  have HO3 := hid hO3
  have HN2 := hid (show f2 ≠ f0 ∧ f2 ≠ f1 from ⟨fun e => hn2 R.toNat true (by omega) (by rw [e]; exact mapped_keep mapped_some (by omega)), fun e => hn2 T.toNat true (by omega) (by rw [e]; exact mapped_some)⟩)
  clear hO3 hn2
  have HBK : Hid (Brk 2 T P (3 + 4 * T + 256 - 2) (3 + 4 * P + 4096) 2 1) := by simp [Hid, Brk]
  have HOX := hid (HO3.out.alloc (.cells #[.int .i64 2, .int .i64 1] 47))
  have HRX := hid (World.rowIs_alloc w4 #[.int .i64 2, .int .i64 1] 47 (fun i => if i = 0 then .int .i64 2 else .int .i64 1) (fun i hi => by
    have hi : i < 2 := hi
    have e : i = 0 ∨ i = 1 := by omega
    rcases e with e | e <;> subst e <;> rfl))
  have HKX : Hid (Keeps (fun b => b < w.heap.size) w (w4.alloc (.cells #[.int .i64 2, .int .i64 1] 47))) := HO3.out.k.alloc (fun _ h => h) _
  have hd64 := Int.tdiv_eq_ediv_of_nonneg b3.1 (b := 64)
  have hd8 := Int.tdiv_eq_ediv_of_nonneg b3.1 (b := 8)
  have hm8 := Int.tmod_eq_emod_of_nonneg b3.1 (b := 8)
  have hm88 := Int.tmod_eq_emod_of_nonneg (a := a / 8) (by omega) (b := 8)
  go_wp2_with fail
  refine (HOX.out.write (a := 8 * R + a / 64) (v := 3 + 4 * T + 256 - 2) (f := f0) (by omega) (by omega) (by omega) (by omega) (by rw [show (8 * R + a / 64).toNat / 8 = R.toNat by omega]; exact mapped_keep (mapped_keep mapped_some (by omega)) (by omega)) (by omega)).mono ?_
  rintro e w6 ⟨rfl, hO4⟩
  rw [show (8 * R + a / 64).toNat % 8 = a.toNat / 64 by omega] at hO4
  have HO4 := hid hO4
  clear hO4
  go_wp2_with fail
  refine (HO4.out.write (a := 8 * T + a / 8 % 8) (v := 3 + 4 * P + 4096) (f := f1) (by omega) (by omega) (by omega) (by omega) (by rw [show (8 * T + a / 8 % 8).toNat / 8 = T.toNat by omega]; exact mapped_keep mapped_some (by omega)) (by omega)).mono ?_
  rintro e w7 ⟨rfl, hO5⟩
  rw [show (8 * T + a / 8 % 8).toNat % 8 = a.toNat / 8 % 8 by omega] at hO5
  have HO5 := hid hO5
  clear hO5
  go_wp2_with fail
  refine (HO5.out.root (p := R) (by omega) (by omega)).mono ?_
  rintro e w8 ⟨rfl, hO6⟩
  have hS : Wst _ R.toNat T.toNat P.toNat (a.toNat / 64) (a.toNat / 8 % 8) f0 f1 f2 true (3 + 4 * T + 256 - 2) (3 + 4 * P + 4096) := Wst.of (A := A0) (fun p => HI0.out.pg 1 p) (by omega) (by omega) (by omega) HN1.out HN2.out
  rw [show ((R.toNat : Nat) : Int) = R by omega] at hS
  generalize ((((((A0.mapped 1 R.toNat f0 true).mapped 1 T.toNat f1 true).mapped 1 P.toNat f2 true).wrote f0 (a.toNat / 64) (3 + 4 * T + 256 - 2)).wrote f1 (a.toNat / 8 % 8) (3 + 4 * P + 4096)).rooted 1 R) = A6 at hS hO6
  have HS := hid hS
  have HO6 := hid hO6
  clear hS hO6 HO5 HO4 HO3 HO2 HO1 HO0 HI0 HN1 HN2 HOX
  have hWk := HS.out.wk HBK.out rfl rfl hT1 hP1 (by omega) (by decide)
  have HO9 := HO6
  have HWK := hid hWk
  obtain ⟨A9, hA9⟩ : ∃ A9, A9 = A6 := ⟨_, rfl⟩
  rw [← hA9] at HO9 HWK
  clear hWk HS HO6 HBK hA9
  go_wp2_with fail
  refine (HO9.out.store (a := a) (v := v) (by omega) (by omega) (by omega) (by omega) HWK.out.st (by omega)).mono ?_
  rintro e w10 ⟨A10, rfl, hO10, hA10, hA10'⟩
  have HRB := hid ((hO10.k.row HRX.out (Or.inr rfl)).alloc (.cells #[.int .i64 2, .int .i64 1] 47))
  have HRC := hid (World.rowIs_alloc w10 #[.int .i64 2, .int .i64 1] 47 (fun i => if i = 0 then .int .i64 2 else .int .i64 1) (fun i hi => by
    have hi : i < 2 := hi
    have e : i = 0 ∨ i = 1 := by omega
    rcases e with e | e <;> subst e <;> rfl))
  have HKC := hid ((HKX.out.trans (hO10.k.mono (fun b hb => Or.inl hb))).alloc (fun _ h => h) (.cells #[.int .i64 2, .int .i64 1] 47))
  have hwl := (hO10.k.row HRX.out (Or.inr rfl)).lt
  have HOC := hid (hO10.alloc (.cells #[.int .i64 2, .int .i64 1] 47))
  have eA := hA10' (show (2 : Int) ≠ 0 by decide)
  subst eA
  obtain ⟨hld, hwz⟩ := HWK.out.kd (by decide)
  have HLD := hid hld
  have HWZ := hid hwz
  clear hO10 hA10 hA10' hld hwz
  go_wp2_with fail
  refine (HOC.out.loadOk (a := a) (x := 0) (f := f2) (by omega) (by omega) HLD.out HWZ.out (by omega)).mono ?_
  rintro e w11 ⟨rfl, hO11⟩
  have rB := hO11.k.row HRB.out (Or.inl (Or.inr rfl))
  have rC := hO11.k.row HRC.out (Or.inr rfl)
  have g0 : w11.cell? ⟨w4.heap.size, 0, none⟩ = some (.int .i64 2) := rB.cell (i := 0) (by show 0 < 2; omega)
  have g1 : w11.cell? ⟨w4.heap.size, 1, none⟩ = some (.int .i64 1) := rB.cell (i := 1) (by show 1 < 2; omega)
  have g2 : w11.cell? ⟨w10.heap.size, 0, none⟩ = some (.int .i64 2) := rC.cell (i := 0) (by show 0 < 2; omega)
  have g3 : w11.cell? ⟨w10.heap.size, 1, none⟩ = some (.int .i64 1) := rC.cell (i := 1) (by show 1 < 2; omega)
  have g4 := rB.lt
  have g5 := rC.lt
  have HKE := hid (HKC.out.trans (hO11.k.mono (fun b hb => Or.inl (Or.inl hb))))
  clear hO11
  go_wp2_with fail
  go_ret
  exact ⟨rfl, (HKE.out.alloc (fun _ h => h) _).below (fun b hb => hb)⟩
end Go.Proofs.Ytfcepnhknmbaaaa
