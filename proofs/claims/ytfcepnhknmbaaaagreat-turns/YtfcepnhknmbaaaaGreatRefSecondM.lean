/- The contract of the document's second: bytes of form 2, the head being otherwise. -/
import Derived.Test.YtfcepnhknmbaaaaGreatRefFirstM
import Derived.Test.YtfcepnhknmbaaaaGreatReadTopM
import Derived.BigQuiet
import Derived.Deep.RegionHeld3
namespace Go.Proofs.YtfcepnhknmbaaaaGreat
open Go.RowKit Go.Deep

/-- The head of form 2. -/
structure Head2 (s : ByteArray) : Prop where
  len : s.size = 7 + 18 * bt (nats s) 4
  le : bt (nats s) 4 ≤ 64
  sum : seal2 ((nats s).take (s.size - 2)) = (nats s).drop (s.size - 2)

theorem head2_of {s : ByteArray} (h : Form2 (nats s)) : Head2 s := by
  have hl := h.le
  have h1 := congrArg List.length h.sl
  have hn := nats_len s
  simp only [List.length_drop, seal2, List.length_cons, List.length_nil, lAt, lE_true] at h1 hl
  have he : s.size = 7 + 18 * bt (nats s) 4 := by omega
  refine ⟨he, ?_, ?_⟩
  · have := (lOk_least h.ok).1
    have := (lOk_least h.ok).2
    omega
  · have e : lAt true 4 (bt (nats s) 4) = s.size - 2 := by simp only [lAt, lE_true]; omega
    have h2 := h.sl
    rw [e] at h2
    exact h2.symm
theorem form2_of {s : ByteArray} (c : bt (nats s) 0 = 67) (v : bt (nats s) 1 = 86) (f : bt (nats s) 2 = 2) (h : Head2 s) (r : rootOk (nats s)) (ok : lOk (nats s) true 4 (bt (nats s) 4)) : Form2 (nats s) := by
  have hn := nats_len s
  have hl := h.len
  have e : lAt true 4 (bt (nats s) 4) = s.size - 2 := by simp only [lAt, lE_true]; omega
  refine ⟨c, v, f, r, ok, by omega, ?_⟩
  rw [e]
  exact h.sum.symm
theorem sum_bd (s : ByteArray) (k : Nat) : ((nats s).take k).sum ≤ 255 * k := by
  induction k with
  | zero => simp
  | succ k ih =>
    by_cases hk : k < (nats s).length
    · have hb := bytes_bt (nats_bys s) k
      rw [take_snoc hk, List.sum_append]
      simp
      omega
    · rw [List.take_of_length_le (by omega)] at ih ⊢
      omega

set_option maxRecDepth 100000 in
set_option maxHeartbeats 2000000 in
theorem secondBad_any (w : World) (s : ByteArray) (hs : s.size ≤ maxLen) (hb : ¬ Head2 s) :
    Calls Tryz.prog 108 #[.string s] w fun e w' => e = .returned (.pointer none) ∧ Only Nob w w' := by
  have hnl := nats_len s
  unfold maxLen at hs
  by_cases a1 : s.size < 7
  · have b1 : (s.size : Int) < 7 := by omega
    go_enter Tryz.func108, Tryz.ntmps108
    go_wp2_with fail
    go_quiet (fail)
    go_wp2
    go_ret
    exact ⟨rfl, (Only.refl _ _).drewN _⟩
  · have hi3 : 4 < s.size := by omega
    have HB3 := hid (nats_bt hi3)
    have c3 := bytes_bt (nats_bys s) 4
    have c3a : (s[4].toNat : Int) < 256 := by rw [HB3.out]; omega
    have c3b : (0 : Int) ≤ (s[4].toNat : Int) := by omega
    have i3 : (4 : Int) < (s.size : Int) := by omega
    have K1 : Hid (IntKind.i64.wrap (s[4].toNat : Int) = (s[4].toNat : Int)) := IntWalk.i64_in _ (by omega)
    have K2 : Hid (IntKind.i64.wrap ((18 : Int) * (s[4].toNat : Int)) = (18 : Int) * (s[4].toNat : Int)) := IntWalk.i64_in _ (by omega)
    have K3 : Hid (IntKind.i64.wrap ((7 : Int) + (18 : Int) * (s[4].toNat : Int)) = (7 : Int) + (18 : Int) * (s[4].toNat : Int)) := IntWalk.i64_in _ (by omega)
    by_cases a2 : s.size = 7 + 18 * bt (nats s) 4
    · have HE : Hid (((s.size : Int) != (7 : Int) + (18 : Int) * (s[4].toNat : Int)) = decide False) := by rw [Hid, decide_false, bne_eq_false_iff_eq, HB3.out]; omega
      by_cases a3 : bt (nats s) 4 ≤ 64
      · have HE3 : Hid (decide ((64 : Int) < (s[4].toNat : Int)) = false) := decide_eq_false (by rw [HB3.out]; omega)
        obtain ⟨m, hm⟩ : ∃ m, s.size = m + 2 := ⟨s.size - 2, by omega⟩
        have HM := hid hm
        have HZ : Hid ((s.extract 0 m).size ≤ 100000) := by rw [Hid, ByteArray.size_extract]; omega
        have K4 : Hid (IntKind.i64.wrap ((s.size : Int) - (2 : Int)) = (m : Int)) := by rw [Hid, IntWalk.i64_in _ (by omega)]; omega
        have HSB : Hid ((nats (s.extract 0 m)).sum ≤ 1000000) := by
          rw [Hid, nats_extract, List.drop_zero, Nat.sub_zero]
          have := sum_bd s m
          omega
        have HSM : Hid (∀ wz : World, Calls Tryz.prog 124 #[.string (s.extract 0 m)] wz fun e w' => e = .returned (.int .i64 (((nats (s.extract 0 m)).sum : Nat) : Int)) ∧ wz = w') := fun wz => rsum_any wz (s.extract 0 m) HZ.out
        have HLO : Hid (∀ wz : World, Calls Tryz.prog 111 #[.int .i64 (((nats (s.extract 0 m)).sum : Nat) : Int)] wz fun e w' => e = .returned (.string (toS (seal2 ((nats s).take m)))) ∧ Only Nob wz w') := fun wz => by
          refine (rlow_any wz _ (by omega) (by have := HSB.out; omega)).mono ?_
          rintro e w' ⟨rfl, o⟩
          rw [Int.toNat_natCast, nats_extract, List.drop_zero, Nat.sub_zero]
          exact ⟨rfl, o⟩
        have hcmp : ((toS (seal2 ((nats s).take m))).toList == (s.extract m s.size).toList) = false := by
          rw [bool_lists, decide_eq_false_iff_not, nats_toS (fun x hx => by simp only [seal2, List.mem_cons, List.not_mem_nil, or_false] at hx; omega), ext_drop]
          intro e
          exact hb ⟨a2, a3, by rw [show s.size - 2 = m by omega]; exact e⟩
        have HCMP := hid hcmp
        have ha2 : s.size ≤ 7 + 18 * 64 := by omega
        clear a2 a3 hm hcmp
        generalize (((nats (s.extract 0 m)).sum : Nat) : Int) = X at *
        generalize seal2 ((nats s).take m) = SL at *
        go_enter Tryz.func108, Tryz.ntmps108
        go_wp2_with fail
        have b1 : decide ((s.size : Int) < 7) = false := decide_eq_false (by omega)
        have k1 := K1.out
        have k2 := K2.out
        have k3 := K3.out
        have b2 := HE.out
        have b3 := HE3.out
        have k4 := K4.out
        have jm1 : (m : Int) < (s.size : Int) := by have := HM.out; omega
        have jm2 : (m : Int) ≤ (s.size : Int) := by omega
        have jm3 : (0 : Int) ≤ (m : Int) := by omega
        have hcmp := HCMP.out
        go_region_held3 (fun _ => True) (trivial) (first | (go_at_call 124; refine (HSM.out _).mono ?_; rintro e wA ⟨rfl, rfl⟩) | (go_at_call 111; refine (HLO.out _).mono ?_; rintro e wB ⟨rfl, oB⟩))
        all_goals
          clear k1 k2 k3 b1 b2 b3 k4
          go_wp2
          go_ret
          exact ⟨rfl, (Only.refl Nob w).drew.trans oB⟩
      · have HE3 : Hid (decide ((64 : Int) < (s[4].toNat : Int)) = true) := decide_eq_true (by rw [HB3.out]; omega)
        clear a2 a3
        go_enter Tryz.func108, Tryz.ntmps108
        go_wp2_with fail
        have b1 : decide ((s.size : Int) < 7) = false := decide_eq_false (by omega)
        have k1 := K1.out
        have k2 := K2.out
        have k3 := K3.out
        have b2 := HE.out
        have b3 := HE3.out
        go_quiet (fail)
        clear k1 k2 k3 b1 b2 b3
        go_wp2
        go_ret
        exact ⟨rfl, (Only.refl _ _).drewN _⟩
    · have HE : Hid (((s.size : Int) != (7 : Int) + (18 : Int) * (s[4].toNat : Int)) = decide True) := by rw [Hid, decide_true, bne_iff_ne, HB3.out]; omega
      clear a2
      go_enter Tryz.func108, Tryz.ntmps108
      go_wp2_with fail
      have b1 : decide ((s.size : Int) < 7) = false := decide_eq_false (by omega)
      have k1 := K1.out
      have k2 := K2.out
      have k3 := K3.out
      have b2 := HE.out
      go_quiet (fail)
      clear k1 k2 k3 b1 b2
      go_wp2
      go_ret
      exact ⟨rfl, (Only.refl _ _).drewN _⟩
end Go.Proofs.YtfcepnhknmbaaaaGreat

/- The contract of the document's second: bytes of form 2, the head being so. -/
namespace Go.Proofs.YtfcepnhknmbaaaaGreat
open Go.RowKit Go.Deep

theorem lW_ext2 (s : ByteArray) {i X Y : Nat} (hX : X = lAt true 4 i + 2) (hY : Y = lAt true 4 i + 18) : ∀ k, k < 8 → wordAt false (nats (s.extract X Y)) 0 k = lW (nats s) true 4 i k := fun k hk => word_ext s false hX hY k hk

theorem gst0_rel {w wB : World} (o : Only Nob w wB) (r : Int) (l : List Nat) (fl : Bool) (h : Nat) : Rel1 w (wB.alloc (.cells (rootedCells Tryz.zeroCells80 r) 80)) wB.heap.size r l fl h 0 := ⟨trivial, _, _, rfl, GNew.base o (gst0_new wB r (fun _ _ => 0)), gst0_pic _ _ _⟩

set_option maxRecDepth 100000 in
set_option maxHeartbeats 4000000 in
theorem secondGood_any (w : World) (s : ByteArray) (hh : Head2 s) :
    Calls Tryz.prog 108 #[.string s] w fun e w' => ReadG w e w' (rootOk (nats s) ∧ lOk (nats s) true 4 (bt (nats s) 4)) (lPic (rootOf (nats s)) (nats s) true 4 (bt (nats s) 4)) := by
  have hnl := nats_len s
  obtain ⟨a2, a3, a4⟩ := hh
  have hi3 : 4 < s.size := by omega
  have HB3 := hid (nats_bt hi3)
  have c3 := bytes_bt (nats_bys s) 4
  have c3a : (s[4].toNat : Int) < 256 := by rw [HB3.out]; omega
  have c3b : (0 : Int) ≤ (s[4].toNat : Int) := by omega
  have i3 : (4 : Int) < (s.size : Int) := by omega
  have K1 : Hid (IntKind.i64.wrap (s[4].toNat : Int) = (s[4].toNat : Int)) := IntWalk.i64_in _ (by omega)
  have K2 : Hid (IntKind.i64.wrap ((18 : Int) * (s[4].toNat : Int)) = (18 : Int) * (s[4].toNat : Int)) := IntWalk.i64_in _ (by omega)
  have K3 : Hid (IntKind.i64.wrap ((7 : Int) + (18 : Int) * (s[4].toNat : Int)) = (7 : Int) + (18 : Int) * (s[4].toNat : Int)) := IntWalk.i64_in _ (by omega)
  have HE : Hid (((s.size : Int) != (7 : Int) + (18 : Int) * (s[4].toNat : Int)) = decide False) := by rw [Hid, decide_false, bne_eq_false_iff_eq, HB3.out]; omega
  have HE3 : Hid (decide ((64 : Int) < (s[4].toNat : Int)) = false) := decide_eq_false (by rw [HB3.out]; omega)
  obtain ⟨m, hm⟩ : ∃ m, s.size = m + 2 := ⟨s.size - 2, by omega⟩
  have HM := hid hm
  have HZ : Hid ((s.extract 0 m).size ≤ 100000) := by rw [Hid, ByteArray.size_extract]; omega
  have K4 : Hid (IntKind.i64.wrap ((s.size : Int) - (2 : Int)) = (m : Int)) := by rw [Hid, IntWalk.i64_in _ (by omega)]; omega
  have HSB : Hid ((nats (s.extract 0 m)).sum ≤ 1000000) := by
    rw [Hid, nats_extract, List.drop_zero, Nat.sub_zero]
    have := sum_bd s m
    omega
  have HSM : Hid (∀ wz : World, Calls Tryz.prog 124 #[.string (s.extract 0 m)] wz fun e w' => e = .returned (.int .i64 (((nats (s.extract 0 m)).sum : Nat) : Int)) ∧ wz = w') := fun wz => rsum_any wz (s.extract 0 m) HZ.out
  have HLO : Hid (∀ wz : World, Calls Tryz.prog 111 #[.int .i64 (((nats (s.extract 0 m)).sum : Nat) : Int)] wz fun e w' => e = .returned (.string (toS (seal2 ((nats s).take m)))) ∧ Only Nob wz w') := fun wz => by
    refine (rlow_any wz _ (by omega) (by have := HSB.out; omega)).mono ?_
    rintro e w' ⟨rfl, o⟩
    rw [Int.toNat_natCast, nats_extract, List.drop_zero, Nat.sub_zero]
    exact ⟨rfl, o⟩
  have HCMP : Hid (((toS (seal2 ((nats s).take m))).toList == (s.extract m s.size).toList) = decide True) := by
    rw [Hid, bool_lists, decide_eq_decide, iff_true, nats_toS (fun x hx => by simp only [seal2, List.mem_cons, List.not_mem_nil, or_false] at hx; omega), ext_drop]
    rw [show s.size - 2 = m by omega] at a4
    exact a4
  have h33 : 3 < s.size := by omega
  have HB33 := hid (nats_bt h33)
  have c33 := bytes_bt (nats_bys s) 3
  have j33 : (3 : Int) < (s.size : Int) := by omega
  have HA2 := hid a2
  have ha2 : s.size ≤ 7 + 18 * 64 := by omega
  have hR3 : s[3].toNat = bt (nats s) 3 := by have := HB33.out; omega
  have HRO : Hid (rootOk (nats s) ↔ (bt (nats s) 3 = 255 ∨ bt (nats s) 3 < 64)) := Iff.rfl
  have HRF : Hid (rootOf (nats s) = if bt (nats s) 3 = 255 then -1 else ((bt (nats s) 3 : Nat) : Int)) := rfl
  clear a2 hm a4
  generalize (((nats (s.extract 0 m)).sum : Nat) : Int) = X at *
  generalize seal2 ((nats s).take m) = SL at *
  generalize hC : bt (nats s) 4 = C at *
  generalize hT : bt (nats s) 3 = T at *
  generalize hl : nats s = l at *
  have HL := hid hl
  clear hl
  go_enter Tryz.func108, Tryz.ntmps108
  go_wp2_with fail
  have b1 : decide ((s.size : Int) < 7) = false := decide_eq_false (by have := HA2.out; omega)
  have k1 := K1.out
  have k2 := K2.out
  have k3 := K3.out
  have b2 := HE.out
  have b3 := HE3.out
  have k4 := K4.out
  have jm1 : (m : Int) < (s.size : Int) := by have := HM.out; omega
  have jm2 : (m : Int) ≤ (s.size : Int) := by omega
  have jm3 : (0 : Int) ≤ (m : Int) := by omega
  have hcmp := HCMP.out
  go_region_held3 (fun _ => True) (trivial) (first | (go_at_call 124; refine (HSM.out _).mono ?_; rintro e wA ⟨rfl, rfl⟩) | (go_at_call 111; refine (HLO.out _).mono ?_; rintro e wB ⟨rfl, oB⟩))
  all_goals
    clear k1 k2 k3 b1 b2 b3 k4
    have HOB := hid ((Only.refl Nob w).drew.trans oB)
    clear oB
    by_cases hro : T = 255 ∨ T < 64
    · go_wp2_with fail
      refine (rootedGood_any wB T (by omega) hro).mono ?_
      rintro e w6 ⟨rfl, hw6⟩
      have H0 : Hid (Rel1 w w6 wB.heap.size (rootOf l) l true 4 0) := by
        rw [Hid, hw6, HRF.out]
        exact gst0_rel HOB.out _ _ _ _
      have HROK : Hid (rootOk l) := HRO.out.2 hro
      clear hw6
      generalize wB.heap.size = g0 at *
      go_wp2_with fail
      go_loopw [4, 5] (fun s4 s5 wr => ∃ i : Nat, i ≤ C ∧ s5 = .int .i64 (5 + i * 18 : Nat) ∧ s4 = .int .i64 ((lLeast l true 4 i : Int) - 1) ∧ Rel1 w wr g0 (rootOf l) l true 4 i) (fun _ s5 _ => (5 + C * 18 - intOf s5).toNat)
      case atStart => exact ⟨0, by omega, by go_num, by go_num, H0.out⟩
      case round =>
        clear H0
        rename World => wr
        obtain ⟨i, hi, rfl, rfl, hR⟩ := hrel
        have HR := hid hR
        have hlb := lOk_least hR.1
        clear hR
        obtain ⟨a, ha⟩ : ∃ a, 5 + i * 18 = a := ⟨_, rfl⟩
        have HA := hid ha
        rw [ha]
        have hls : a ≤ 100000 := by have := HA2.out; omega
        have hlat : a = lAt true 4 i := by rw [← ha]; simp [lAt, lE_true]
        by_cases hlt : i < C
        · have ia : a < s.size := by have := HA2.out; omega
          have ib : a + 1 < s.size := by have := HA2.out; omega
          have HB := hid (nats_bt ia)
          have cb := bytes_bt (nats_bys s) a
          have HBf := hid (nats_bt ib)
          have cbf := bytes_bt (nats_bys s) (a + 1)
          have hN : s[a].toNat = lN l true 4 i := by
            have e := HB.out
            rw [HL.out] at e
            show _ = bt l (lAt true 4 i)
            rw [← hlat]
            omega
          have hF : s[a + 1].toNat = bt l (a + 1) := by
            have e := HBf.out
            rw [HL.out] at e
            omega
          have hnb : lN l true 4 i < 256 := by rw [← hN]; have := HB.out; omega
          have hfb : bt l (a + 1) < 256 := by rw [← hF]; have := HBf.out; omega
          have hj1 : (a : Int) < (s.size : Int) - 2 := by have := HA2.out; omega
          have hj2 : (a : Int) < (s.size : Int) := by omega
          have hj3 : (a : Int) + 1 < (s.size : Int) := by omega
          have hz2 : (a : Int) + 18 ≤ (s.size : Int) := by have := HA2.out; omega
          have hz3 : (0 : Int) ≤ (a : Int) := by omega
          by_cases hok : lLeast l true 4 i ≤ lN l true 4 i ∧ lN l true 4 i < 64 ∧ bt l (a + 1) ≤ 1
          · obtain ⟨ok1, ok2, ok3⟩ := hok
            have hLL : Hid (lLeast l true 4 (i + 1) = lN l true 4 i + 1) := rfl
            have HLW : Hid (∀ X Y, X = a + 2 → Y = a + 18 → ∀ k, k < 8 → wordAt false (nats (s.extract X Y)) 0 k = lW l true 4 i k) := fun X Y hX hY => by
              rw [← HL.out]
              exact lW_ext2 s (by rw [hX, hlat]) (by rw [hY, hlat])
            clear ha
            generalize hNN : lN l true 4 i = N at *
            generalize hLQ : lLeast l true 4 i = L at *
            have hfe : bt l (a + 1) = 0 ∨ bt l (a + 1) = 1 := by omega
            rcases hfe with hfl | hfl
            · have HOK : Hid (lOk l true 4 (i + 1)) := ⟨HR.out.1, by rw [hNN, hLQ]; exact ok1, by rw [hNN]; exact ok2, fun _ => by rw [← hlat]; omega⟩
              have HWR : Hid (lWr l true 4 i = false) := by
                show (bt l (lAt true 4 i + 1) == 1) = false
                rw [← hlat, hfl]; rfl
              rw [hfl] at hF
              have HF1 := hid hF
              have HNN : Hid (lN l true 4 i = N) := hNN
              clear hfl hlat
              have hq1 : ¬ (N : Int) ≤ (L : Int) - 1 := by omega
              have hq2 : ¬ (64 : Int) ≤ (N : Int) := by omega
              have hq3 : (N : Int) < 64 := by omega
              go_wp2_with fail
              have g1 : IntKind.i64.wrap ((a : Int) + (2 : Int)) = (a : Int) + (2 : Int) := IntWalk.i64_in _ (by omega)
              have g2 : IntKind.i64.wrap ((a : Int) + (18 : Int)) = (a : Int) + (18 : Int) := IntWalk.i64_in _ (by omega)
              have g3 : IntKind.i64.wrap ((a : Int) + (1 : Int)) = (a : Int) + (1 : Int) := IntWalk.i64_in _ (by omega)
              have f1 : (0 : Int) ≤ (a : Int) + (2 : Int) := by omega
              have f2 : (a : Int) + (2 : Int) ≤ (a : Int) + (18 : Int) := by omega
              have f3 : (a : Int) + (18 : Int) ≤ (s.size : Int) := by omega
              have f4 : ((a : Int) + (2 : Int)).toNat = a + 2 := by omega
              have f5 : ((a : Int) + (18 : Int)).toNat = a + 18 := by omega
              have f6 : ((a : Int) + (1 : Int)).toNat = a + 1 := by omega
              have f7 : (a : Int) + (1 : Int) < (s.size : Int) := by omega
              have f8 : (0 : Int) ≤ (a : Int) + (1 : Int) := by omega
              go_region_with (go_at_call 125; refine (page_any _ _ false (by rw [ByteArray.size_extract]; omega)).mono ?_; rintro e w5 ⟨rfl, ⟨t5, r5⟩, o5⟩; obtain ⟨⟨v1, z1⟩, ⟨v2, z2⟩, zf⟩ := HR.out.cells (w5 := w5) (((Only.refl Nob wr).drew).trans o5) ok2)
              all_goals
                have HX := hid (HR.out.next HOK.out (((Only.refl Nob wr).drew).trans o5) (Nat.le_refl _) r5 (HLW.out _ _ (by omega) (by omega)))
                rw [HNN.out, HWR.out] at HX
                clear z1 z2 zf r5 o5
                go_wp2_with fail
                go_roundw
                case rel => exact ⟨i + 1, by omega, by have := HA.out; go_num, by rw [hLL.out]; go_num, HX.out⟩
                case measure => have := HA.out; simp [intOf]; omega
            · have HOK : Hid (lOk l true 4 (i + 1)) := ⟨HR.out.1, by rw [hNN, hLQ]; exact ok1, by rw [hNN]; exact ok2, fun _ => by rw [← hlat]; omega⟩
              have HWR : Hid (lWr l true 4 i = true) := by
                show (bt l (lAt true 4 i + 1) == 1) = true
                rw [← hlat, hfl]; rfl
              rw [hfl] at hF
              have HF1 := hid hF
              have HNN : Hid (lN l true 4 i = N) := hNN
              clear hfl hlat
              have hq1 : ¬ (N : Int) ≤ (L : Int) - 1 := by omega
              have hq2 : ¬ (64 : Int) ≤ (N : Int) := by omega
              have hq3 : (N : Int) < 64 := by omega
              go_wp2_with fail
              have g1 : IntKind.i64.wrap ((a : Int) + (2 : Int)) = (a : Int) + (2 : Int) := IntWalk.i64_in _ (by omega)
              have g2 : IntKind.i64.wrap ((a : Int) + (18 : Int)) = (a : Int) + (18 : Int) := IntWalk.i64_in _ (by omega)
              have g3 : IntKind.i64.wrap ((a : Int) + (1 : Int)) = (a : Int) + (1 : Int) := IntWalk.i64_in _ (by omega)
              have f1 : (0 : Int) ≤ (a : Int) + (2 : Int) := by omega
              have f2 : (a : Int) + (2 : Int) ≤ (a : Int) + (18 : Int) := by omega
              have f3 : (a : Int) + (18 : Int) ≤ (s.size : Int) := by omega
              have f4 : ((a : Int) + (2 : Int)).toNat = a + 2 := by omega
              have f5 : ((a : Int) + (18 : Int)).toNat = a + 18 := by omega
              have f6 : ((a : Int) + (1 : Int)).toNat = a + 1 := by omega
              have f7 : (a : Int) + (1 : Int) < (s.size : Int) := by omega
              have f8 : (0 : Int) ≤ (a : Int) + (1 : Int) := by omega
              go_region_with (go_at_call 125; refine (page_any _ _ false (by rw [ByteArray.size_extract]; omega)).mono ?_; rintro e w5 ⟨rfl, ⟨t5, r5⟩, o5⟩; obtain ⟨⟨v1, z1⟩, ⟨v2, z2⟩, zf⟩ := HR.out.cells (w5 := w5) (((Only.refl Nob wr).drew).trans o5) ok2)
              all_goals
                have HX := hid (HR.out.next HOK.out (((Only.refl Nob wr).drew).trans o5) (Nat.le_refl _) r5 (HLW.out _ _ (by omega) (by omega)))
                rw [HNN.out, HWR.out] at HX
                clear z1 z2 zf r5 o5
                go_wp2_with fail
                go_roundw
                case rel => exact ⟨i + 1, by omega, by have := HA.out; go_num, by rw [hLL.out]; go_num, HX.out⟩
                case measure => have := HA.out; simp [intOf]; omega
          · have HNO : Hid (¬ (rootOk l ∧ lOk l true 4 C)) := fun q => by
              have q := lOk_le (show i + 1 ≤ C by omega) q.2
              have q3 := q.2.2.2 rfl
              rw [← hlat] at q3
              exact hok ⟨q.2.1, q.2.2.1, q3⟩
            have HO := hid HR.out.o
            clear ha hlat
            generalize lN l true 4 i = N at *
            generalize lLeast l true 4 i = L at *
            generalize bt l (a + 1) = F at *
            by_cases hq1 : (N : Int) ≤ (L : Int) - 1
            · go_wp2_with fail
              go_ret
              exact ReadG.no HNO.out rfl HO.out
            · by_cases hq2 : (64 : Int) ≤ (N : Int)
              · go_wp2_with fail
                go_ret
                exact ReadG.no HNO.out rfl HO.out
              · have hq4 : (1 : Int) < (F : Int) := by omega
                go_wp2_with fail
                go_ret
                exact ReadG.no HNO.out rfl HO.out
        · have hiC : i = C := by omega
          subst hiC
          have hj1 : ¬ (a : Int) < (s.size : Int) - 2 := by have := HA2.out; omega
          clear ha hlat
          go_wp2_with fail
          go_ret
          obtain ⟨q1, G, Wd, q2, q3, q4⟩ := HR.out
          exact ReadG.yes ⟨HROK.out, q1⟩ (by rw [q2]; rfl) q3 q4
    · have HNO : Hid (¬ (rootOk l ∧ lOk l true 4 C)) := fun q => hro (HRO.out.1 q.1)
      go_wp2_with fail
      refine (rootedBad_any wB T (by omega) hro).mono ?_
      rintro e w6 ⟨rfl, rfl⟩
      go_wp2_with fail
      go_loopw [4, 5] (fun s4 s5 wr => s4 = .int .i64 (-1) ∧ s5 = .int .i64 5 ∧ Only Nob w wr) (fun _ _ _ => 0)
      case atStart => exact ⟨rfl, rfl, HOB.out⟩
      case round =>
        rename World => wr
        obtain ⟨rfl, rfl, hO⟩ := hrel
        have HO := hid hO
        clear hO
        go_wp2_with fail
        go_ret
        exact ReadG.no HNO.out rfl HO.out
end Go.Proofs.YtfcepnhknmbaaaaGreat
