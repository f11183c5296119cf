/- The contract of the document's Bytes. -/
import Derived.Test.YtfcepnhknmbaaaaGreatRefBytesA
import Derived.Deep.RegionHeld3
namespace Go.Proofs.YtfcepnhknmbaaaaGreat
open Go.RowKit Go.Deep

theorem run_eq8i' (n : Nat) (a b c d e f g h : Int) (w : World) : (Op.equalIn (n + 2) 81 (.agg #[.int .i64 a, .int .i64 b, .int .i64 c, .int .i64 d, .int .i64 e, .int .i64 f, .int .i64 g, .int .i64 h]) (.agg #[.int .i64 0, .int .i64 0, .int .i64 0, .int .i64 0, .int .i64 0, .int .i64 0, .int .i64 0, .int .i64 0])).run Tryz.prog w = .ok (a == 0 && b == 0 && c == 0 && d == 0 && e == 0 && f == 0 && g == 0 && h == 0) w := by
  have hs : ∀ w, (sizeOf 3).run Tryz.prog w = .ok 1 w := fun _ => by kernel_rfl
  have ha : ∀ w, (isAgg 3).run Tryz.prog w = .ok false w := fun _ => by kernel_rfl
  have heq : ∀ (x y : Int), (Op.equalIn (n + 1) 3 (.int .i64 x) (.int .i64 y)).run Tryz.prog w = .ok (x == y) w := fun x y => by
    simp only [Op.equalIn, Sem.run_bind, run_underlying Tryz.underlying3, Result.andThen_ok, if_true, Sem.run_pure]
  generalize hk : n + 1 = k at *
  rw [show n + 2 = k + 1 by omega]
  simp only [Op.equalIn, Sem.run_bind, run_underlying Tryz.underlying81, Result.andThen_ok, hs]
  simp [Std.Legacy.Range.forIn_eq_forIn_range', List.range', part, ha, heq]
  (repeat' split) <;> simp_all
theorem run_eq8i (a b c d e f g h : Int) (w : World) : (Op.equalIn 10000 81 (.agg #[.int .i64 a, .int .i64 b, .int .i64 c, .int .i64 d, .int .i64 e, .int .i64 f, .int .i64 g, .int .i64 h]) (.agg #[.int .i64 0, .int .i64 0, .int .i64 0, .int .i64 0, .int .i64 0, .int .i64 0, .int .i64 0, .int .i64 0])).run Tryz.prog w = .ok (a == 0 && b == 0 && c == 0 && d == 0 && e == 0 && f == 0 && g == 0 && h == 0) w := run_eq8i' 9998 a b c d e f g h w

theorem b8_next (f : Nat → Bool) (k j : Nat) : b8 f k (j + 1) = b8 f k j + if f (8 * k + j) then 2 ^ j else 0 := rfl
theorem pow_le8 {j : Nat} (h : j ≤ 8) : 2 ^ j ≤ 256 := Nat.pow_le_pow_right (by omega) h (n := 2)

set_option maxRecDepth 100000 in
set_option maxHeartbeats 4000000 in
theorem rbytes_any (w : World) (G : RG) (Wd : Nat → Nat → Int) (P : Pic) (hL : GLie w G Wd) (hP : GPic G Wd P) (hG : P.Good) :
    Calls Tryz.prog 74 #[pt G.gb] w fun e w' => e = .returned (.string (toS (encL P))) ∧ Only Nob w w' := by
  have HL := hid hL
  have HP := hid hP
  have HG := hid hG
  clear hL hP hG
  go_enter Tryz.func74, Tryz.ntmps74
  go_wp2_with fail
  go_loopw [3, 4, 5, 6, 7] (fun s3 s4 s5 s6 s7 wr => ∃ k : Nat, k ≤ 8 ∧ s7 = .int .i64 k ∧ s3 = .string (toS (bitsTo P.pr k)) ∧ s4 = .string (toS (bitsTo P.wr k)) ∧ s5 = .string (toS (bitsTo P.fil k)) ∧ s6 = .string (toS (wordsTo P (8 * k))) ∧ Only Nob w wr) (fun _ _ _ _ s7 _ => 8 - (intOf s7).toNat)
  case atStart => exact ⟨0, by omega, rfl, rfl, rfl, rfl, rfl, Only.refl _ _⟩
  case round =>
    rename World => wr
    obtain ⟨k, hk, rfl, rfl, rfl, rfl, rfl, ho⟩ := hrel
    have HO := hid ho
    clear ho
    by_cases hlt : k < 8
    · have hk2 : (k : Int) < 8 := by omega
      have lb1 := bitsTo_len P.pr k
      have lb2 := bitsTo_len P.wr k
      have lb3 := bitsTo_len P.fil k
      have HB1 : Hid (bitsTo P.pr (k + 1) = bitsTo P.pr k ++ [b8 P.pr k 8]) := rfl
      have HB2 : Hid (bitsTo P.wr (k + 1) = bitsTo P.wr k ++ [b8 P.wr k 8]) := rfl
      have HB3 : Hid (bitsTo P.fil (k + 1) = bitsTo P.fil k ++ [b8 P.fil k 8]) := rfl
      generalize bitsTo P.pr k = T1 at *
      generalize bitsTo P.wr k = T2 at *
      generalize bitsTo P.fil k = T3 at *
      go_wp2_with fail
      go_loopw [6, 8, 9, 10, 11, 12] (fun s6 s8 s9 s10 s11 s12 wi => ∃ j : Nat, j ≤ 8 ∧ s12 = .int .i64 (8 * k + j : Nat) ∧ s8 = .int .i64 (b8 P.pr k j : Nat) ∧ s9 = .int .i64 (b8 P.wr k j : Nat) ∧ s10 = .int .i64 (b8 P.fil k j : Nat) ∧ s11 = .int .i64 (2 ^ j : Nat) ∧ s6 = .string (toS (wordsTo P (8 * k + j))) ∧ Only Nob w wi) (fun _ _ _ _ _ s12 _ => (8 * k + 8 - intOf s12).toNat)
      case atStart => exact ⟨0, by omega, by go_num, rfl, rfl, rfl, rfl, rfl, HO.out⟩
      case round =>
        clear HO
        rename World => wi
        obtain ⟨j, hj, rfl, rfl, rfl, rfl, rfl, rfl, ho⟩ := hrel
        have d1 := b8_lt P.pr k j
        have d2 := b8_lt P.wr k j
        have d3 := b8_lt P.fil k j
        have d4 := pow_le8 hj
        have HO := hid ho
        by_cases hlt2 : j < 8
        · have hj2 : ((8 * k + j : Nat) : Int) < 8 * (k : Int) + 8 := by omega
          obtain ⟨hc0, hc1⟩ := (HL.out.nob ho).page (p := 8 * k + j) (by omega)
          have HLi := hid (HL.out.nob ho)
          have N1 := hid (b8_next P.pr k j)
          have N2 := hid (b8_next P.wr k j)
          have N3 := hid (b8_next P.fil k j)
          have hwl := wordsTo_len P (8 * k + j)
          have hwc := cntF_le P.fil (8 * k + j)
          have HW : Hid (wordsTo P (8 * k + j + 1) = wordsTo P (8 * k + j) ++ if P.fil (8 * k + j) then pageB P (8 * k + j) 8 else []) := rfl
          have HPW : Hid (((2 ^ (j + 1) : Nat) : Int) = 2 * ((2 ^ j : Nat) : Int)) := by rw [Hid, Nat.pow_succ]; omega
          have hp64 : 8 * k + j < 64 := by omega
          clear ho
          generalize b8 P.pr k j = X at *
          generalize b8 P.wr k j = Y at *
          generalize b8 P.fil k j = Z at *
          generalize 2 ^ j = Bt at *
          generalize wordsTo P (8 * k + j) = WW at *
          cases hx : G.P (8 * k + j) with
          | none =>
            rw [hx, ptO_none] at hc0
            have e1 : P.pr (8 * k + j) = false := by rw [HP.out.pr _ hp64, hx]; rfl
            obtain ⟨e2, e3⟩ := HP.out.no _ hp64 hx
            have e4 : P.fil (8 * k + j) = false := by
              simp only [Pic.fil, List.any_eq_false, List.mem_range]
              intro i hi
              simp [e3 i hi]
            rw [e1] at N1
            rw [e2] at N2
            rw [e4] at N3 HW
            have HO1 : Hid (∀ o, Only Nob w (wi.alloc o)) := fun o => HO.out.alloc o
            clear e1 e2 e3 e4 hx
            generalize G.Wr (8 * k + j) = W at *
            go_wp2_with fail
            go_roundw
            case rel => exact ⟨j + 1, by omega, by go_num, by rw [N1.out]; rfl, by rw [N2.out]; rfl, by rw [N3.out]; rfl, by rw [HPW.out], by rw [show 8 * k + (j + 1) = 8 * k + j + 1 by omega, HW.out]; simp, HO1.out _⟩
            case measure => simp [intOf]; omega
          | some b =>
            rw [hx, ptO_some] at hc0
            have e1 : P.pr (8 * k + j) = true := by rw [HP.out.pr _ hp64, hx]; rfl
            have e2 := HP.out.wr _ b hp64 hx
            obtain ⟨t, i, r⟩ := HLi.out.ps _ b hp64 hx
            have q0 : ∀ o, (wi.alloc o).cell? ⟨b, 1, none⟩ = some (.int .i64 (Wd b 0)) := fun o => (r.alloc o).cell (i := 1) (by omega)
            have q1 : ∀ o, (wi.alloc o).cell? ⟨b, 2, none⟩ = some (.int .i64 (Wd b 1)) := fun o => (r.alloc o).cell (i := 2) (by omega)
            have q2 : ∀ o, (wi.alloc o).cell? ⟨b, 3, none⟩ = some (.int .i64 (Wd b 2)) := fun o => (r.alloc o).cell (i := 3) (by omega)
            have q3 : ∀ o, (wi.alloc o).cell? ⟨b, 4, none⟩ = some (.int .i64 (Wd b 3)) := fun o => (r.alloc o).cell (i := 4) (by omega)
            have q4 : ∀ o, (wi.alloc o).cell? ⟨b, 5, none⟩ = some (.int .i64 (Wd b 4)) := fun o => (r.alloc o).cell (i := 5) (by omega)
            have q5 : ∀ o, (wi.alloc o).cell? ⟨b, 6, none⟩ = some (.int .i64 (Wd b 5)) := fun o => (r.alloc o).cell (i := 6) (by omega)
            have q6 : ∀ o, (wi.alloc o).cell? ⟨b, 7, none⟩ = some (.int .i64 (Wd b 6)) := fun o => (r.alloc o).cell (i := 7) (by omega)
            have q7 : ∀ o, (wi.alloc o).cell? ⟨b, 8, none⟩ = some (.int .i64 (Wd b 7)) := fun o => (r.alloc o).cell (i := 8) (by omega)
            have hw8 : ∀ q, q < 8 → Wd b q = P.wd (8 * k + j) q := HP.out.wd _ b hp64 hx
            have hq := run_eq8i (Wd b 0) (Wd b 1) (Wd b 2) (Wd b 3) (Wd b 4) (Wd b 5) (Wd b 6) (Wd b 7)
            have e4 := fil_eq P (8 * k + j)
            rw [← hw8 0 (by omega), ← hw8 1 (by omega), ← hw8 2 (by omega), ← hw8 3 (by omega), ← hw8 4 (by omega), ← hw8 5 (by omega), ← hw8 6 (by omega), ← hw8 7 (by omega)] at e4
            have HWB : Hid (∀ wz, Only Nob wi wz → Calls Tryz.prog 100 #[pt b] wz fun e w' => e = .returned (.string (toS (pageB P (8 * k + j) 8))) ∧ Only Nob wz w') := fun wz oz => words_any wz b (Wd b) t i (oz.row r (fun q => q)) P (8 * k + j) (fun q hq8 => ⟨hw8 q hq8, by rw [hw8 q hq8]; exact (HG.out.w _ q hp64 hq8).1, by rw [hw8 q hq8]; exact (HG.out.w _ q hp64 hq8).2⟩)
            have hpl := pageB_len P (8 * k + j) 8
            rw [e1] at N1
            rw [e2] at N2
            rw [e4] at N3 HW
            clear r e1 e2 e4 hx hw8
            generalize (Wd b 0 == 0 && Wd b 1 == 0 && Wd b 2 == 0 && Wd b 3 == 0 && Wd b 4 == 0 && Wd b 5 == 0 && Wd b 6 == 0 && Wd b 7 == 0) = zz at *
            generalize pageB P (8 * k + j) 8 = PB at *
            have hadd := run_string_add_sum (P := Tryz.prog) (a := toS WW) (b := toS PB) (h := by rw [toS_size, toS_size]; omega)
            rw [toS_append] at hadd
            obtain ⟨W3, hW3⟩ : ∃ W3, W3 = WW ++ PB := ⟨_, rfl⟩
            rw [← hW3] at hadd
            have HW3 := hid hW3
            have HO1 : Hid (∀ o, Only Nob w (wi.alloc o)) := fun o => HO.out.alloc o
            clear hW3
            cases hWr : G.Wr (8 * k + j) with
            | true =>
              cases zz with
              | true =>
                rw [hWr] at hc1 N2
                clear hWr
                go_wp2_with fail
                go_roundw
                case rel => exact ⟨j + 1, by omega, by go_num, by rw [N1.out]; go_num, by rw [N2.out]; go_num, by rw [N3.out]; rfl, by rw [HPW.out], by rw [show 8 * k + (j + 1) = 8 * k + j + 1 by omega, HW.out]; simp, HO1.out _⟩
                case measure => simp [intOf]; omega
              | false =>
                rw [hWr] at hc1 N2
                clear hWr
                go_wp2_with fail
                refine (HWB.out _ ((Only.refl _ _).alloc _)).mono ?_
                rintro e w5 ⟨rfl, o5⟩
                have HO5 := hid ((HO1.out _).trans o5)
                clear o5
                go_wp2_with fail
                go_roundw
                case rel => exact ⟨j + 1, by omega, by go_num, by rw [N1.out]; go_num, by rw [N2.out]; go_num, by rw [N3.out]; go_num, by rw [HPW.out], by rw [show 8 * k + (j + 1) = 8 * k + j + 1 by omega, HW.out]; rw [HW3.out]; simp, HO5.out⟩
                case measure => simp [intOf]; omega
            | false =>
              cases zz with
              | true =>
                rw [hWr] at hc1 N2
                clear hWr
                go_wp2_with fail
                go_roundw
                case rel => exact ⟨j + 1, by omega, by go_num, by rw [N1.out]; go_num, by rw [N2.out]; rfl, by rw [N3.out]; rfl, by rw [HPW.out], by rw [show 8 * k + (j + 1) = 8 * k + j + 1 by omega, HW.out]; simp, HO1.out _⟩
                case measure => simp [intOf]; omega
              | false =>
                rw [hWr] at hc1 N2
                clear hWr
                go_wp2_with fail
                refine (HWB.out _ ((Only.refl _ _).alloc _)).mono ?_
                rintro e w5 ⟨rfl, o5⟩
                have HO5 := hid ((HO1.out _).trans o5)
                clear o5
                go_wp2_with fail
                go_roundw
                case rel => exact ⟨j + 1, by omega, by go_num, by rw [N1.out]; go_num, by rw [N2.out]; rfl, by rw [N3.out]; go_num, by rw [HPW.out], by rw [show 8 * k + (j + 1) = 8 * k + j + 1 by omega, HW.out]; rw [HW3.out]; simp, HO5.out⟩
                case measure => simp [intOf]; omega
        · have hj8 : j = 8 := by omega
          subst hj8
          have hj2 : ¬ ((8 * k + 8 : Nat) : Int) < 8 * (k : Int) + 8 := by omega
          clear ho
          generalize b8 P.pr k 8 = X at *
          generalize b8 P.wr k 8 = Y at *
          generalize b8 P.fil k 8 = Z at *
          have hadd1 := run_string_add_sum (P := Tryz.prog) (a := toS T1) (b := toS [X]) (h := by rw [toS_size, toS_size]; simp; omega)
          rw [toS_append, ← HB1.out] at hadd1
          have hadd2 := run_string_add_sum (P := Tryz.prog) (a := toS T2) (b := toS [Y]) (h := by rw [toS_size, toS_size]; simp; omega)
          rw [toS_append, ← HB2.out] at hadd2
          have hadd3 := run_string_add_sum (P := Tryz.prog) (a := toS T3) (b := toS [Z]) (h := by rw [toS_size, toS_size]; simp; omega)
          rw [toS_append, ← HB3.out] at hadd3
          generalize hWW : wordsTo P (8 * k + 8) = WW at *
          generalize hU1 : bitsTo P.pr (k + 1) = U1 at *
          generalize hU2 : bitsTo P.wr (k + 1) = U2 at *
          generalize hU3 : bitsTo P.fil (k + 1) = U3 at *
          go_wp2_with fail
          refine (one_any _ (X : Nat) (by omega) (by omega)).mono ?_
          rintro e w5 ⟨rfl, o5⟩
          rw [Int.toNat_natCast]
          go_wp2_with fail
          refine (one_any _ (Y : Nat) (by omega) (by omega)).mono ?_
          rintro e w6 ⟨rfl, o6⟩
          rw [Int.toNat_natCast]
          go_wp2_with fail
          refine (one_any _ (Z : Nat) (by omega) (by omega)).mono ?_
          rintro e w7 ⟨rfl, o7⟩
          rw [Int.toNat_natCast]
          have HO7 := hid (((HO.out.trans o5).trans o6).trans o7)
          clear o5 o6 o7
          go_wp2_with fail
          go_roundw
          case rel => exact ⟨k + 1, by omega, by go_num, by rw [hU1], by rw [hU2], by rw [hU3], by rw [show 8 * (k + 1) = 8 * k + 8 by omega, hWW], HO7.out⟩
          case measure => simp [intOf]; omega
    · have hk8 : k = 8 := by omega
      subst hk8
      have hroot := (HL.out.nob HO.out).root
      have hr1 := HP.out.root
      have hr2 := HG.out.r0
      have hr3 := HG.out.r1
      rw [hr1] at hroot
      have HK : Hid (∀ w5, Only Nob wr.drew w5 → w5.cell? ⟨G.gb, 1, none⟩ = some (.int .i64 P.root)) := fun w5 o => ((Only.refl Nob wr).drew.trans o).keep (fun q => q) hroot
      have lb1 := bitsTo_len P.pr 8
      have lb2 := bitsTo_len P.wr 8
      have lb3 := bitsTo_len P.fil 8
      have lb4 := wordsTo_len P (8 * 8)
      have lb5 := cntF_le P.fil (8 * 8)
      have HAH : Hid (aheadL P = [67, 86, 3, rootB P.root] ++ bitsTo P.pr 8 ++ bitsTo P.wr 8 ++ bitsTo P.fil 8 ++ wordsTo P (8 * 8)) := rfl
      have hal := aheadL_len P
      have HBY : Hid (Bys (aheadL P)) := bys_ahead HG.out
      have HEN : Hid (encL P = aheadL P ++ checkL (aheadL P)) := rfl
      have hen := encL_len P
      have hcf := cntF_le P.fil 64
      generalize bitsTo P.pr 8 = T1 at *
      generalize bitsTo P.wr 8 = T2 at *
      generalize bitsTo P.fil 8 = T3 at *
      generalize wordsTo P (8 * 8) = T4 at *
      generalize hrb : rootB P.root = rb at *
      have h1 := run_string_add_sum (P := Tryz.prog) (a := ⟨#[67, 86]⟩) (b := toS [3]) (h := by rw [toS_size]; decide)
      rw [show (⟨#[67, 86]⟩ : ByteArray) ++ toS [3] = toS [67, 86, 3] from toS_append [67, 86] [3]] at h1
      have h2 := run_string_add_sum (P := Tryz.prog) (a := toS [67, 86, 3]) (b := toS [rb]) (h := by rw [toS_size, toS_size]; simp)
      rw [toS_append, show [67, 86, 3] ++ [rb] = [67, 86, 3, rb] from rfl] at h2
      obtain ⟨L1, hL1⟩ : ∃ L, L = [67, 86, 3, rb] := ⟨_, rfl⟩
      rw [← hL1] at h2
      have l1 : L1.length = 4 := by rw [hL1]; rfl
      have h3 := run_string_add_sum (P := Tryz.prog) (a := toS L1) (b := toS T1) (h := by rw [toS_size, toS_size]; omega)
      obtain ⟨L2, hL2⟩ : ∃ L, L = L1 ++ T1 := ⟨_, rfl⟩
      rw [toS_append, ← hL2] at h3
      have l2 : L2.length = 12 := by rw [hL2, List.length_append]; omega
      have h4 := run_string_add_sum (P := Tryz.prog) (a := toS L2) (b := toS T2) (h := by rw [toS_size, toS_size]; omega)
      obtain ⟨L3, hL3⟩ : ∃ L, L = L2 ++ T2 := ⟨_, rfl⟩
      rw [toS_append, ← hL3] at h4
      have l3 : L3.length = 20 := by rw [hL3, List.length_append]; omega
      have h5 := run_string_add_sum (P := Tryz.prog) (a := toS L3) (b := toS T3) (h := by rw [toS_size, toS_size]; omega)
      obtain ⟨L4, hL4⟩ : ∃ L, L = L3 ++ T3 := ⟨_, rfl⟩
      rw [toS_append, ← hL4] at h5
      have l4 : L4.length = 28 := by rw [hL4, List.length_append]; omega
      have h6 := run_string_add_sum (P := Tryz.prog) (a := toS L4) (b := toS T4) (h := by rw [toS_size, toS_size]; omega)
      have e6 : L4 ++ T4 = aheadL P := by rw [hL4, hL3, hL2, hL1, HAH.out]
      rw [toS_append, e6] at h6
      have h7 := run_string_add_sum (P := Tryz.prog) (a := toS (aheadL P)) (b := toS (checkL (aheadL P))) (h := by rw [toS_size, toS_size]; simp [checkL]; omega)
      rw [toS_append, ← HEN.out] at h7
      have hck := hid (fun wz => rcheck_any wz (toS (aheadL P)) (by rw [toS_size]; unfold maxLen; omega))
      rw [nats_toS HBY.out] at hck
      clear hL1 hL2 hL3 hL4 e6 HAH HEN
      generalize checkL (aheadL P) = CC at *
      generalize aheadL P = AA at *
      generalize hEE : encL P = EE at *
      go_wp2_with fail
      go_region_held3 (fun w' => w'.cell? ⟨G.gb, 1, none⟩ = some (.int .i64 P.root)) (go_keep) (first | (go_at_call 101; refine (one_any _ 3 (by omega) (by omega)).mono ?_; rintro e wA ⟨rfl, oA⟩; rw [show (3 : Int).toNat = 3 from rfl]; first | have a1 := HK.out wA oA | have a1 := HK.out wA (oB.trans oA)) | (go_at_call 102; refine (rrootB_any _ P.root hr2 hr3).mono ?_; rintro e wB ⟨rfl, oB⟩; rw [hrb]; first | have a2 := HK.out wB oB | have a2 := HK.out wB (oA.trans oB)))
      all_goals
        first
          | have HO5 := hid (HO.out.drew.trans (oA.trans oB))
          | have HO5 := hid (HO.out.drew.trans (oB.trans oA))
        clear a1 a2 oA oB hroot
        go_wp2_with fail
        refine (hck.out _).mono ?_
        rintro e w8 ⟨rfl, o8⟩
        go_wp2
        go_ret
        exact ⟨by rw [hEE]; rfl, HO5.out.trans o8⟩
end Go.Proofs.YtfcepnhknmbaaaaGreat
