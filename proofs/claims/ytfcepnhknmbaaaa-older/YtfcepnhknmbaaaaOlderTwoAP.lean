/- The law Older: its body, form 2, at most 20 pages, a root. -/
import Derived.Test.YtfcepnhknmbaaaaOlderHead
namespace Go.Proofs.Ytfcepnhknmbaaaa
open Go.RowKit Go.Deep

set_option maxRecDepth 100000 in
set_option maxHeartbeats 4000000 in
theorem older_twoAP (w : World) (a0 b0 : Option Addr) (len cap len2 cap2 : Nat) (z y : Nat → Int) (root form off : Int) (hr : In64 root) (hf : In64 form) (ho : In64 off) (hz : IntRow w a0 len z) (hy : IntRow w b0 len2 y) (hF : pickI form 2 = 1) (ρ : Nat) (hρ : ρ < 64) (hRT : pickI root 65 = (ρ : Int) + 1) (hL : len ≤ 20) :
    Calls Try.prog 10 #[.slice a0 len cap, .slice b0 len2 cap2, .int .i64 root, .int .i64 form, .int .i64 off] w fun e w' => e = .returned (.bool true) ∧ Below w.heap.size w w' := by
  have hlen2 : (len : Int) ≤ 9223372036854775807 := by have := hz.1; unfold maxLen at this; omega
  have HZ := hid hz
  have HY := hid hy
  have HF := hid hF
  have HRT := hid hRT
  have HL0 : Hid (∀ w : World, Calls Try.prog 28 #[.int .i64 0] w fun e w' => e = .returned (.string (toS [0, 0])) ∧ Only Nob w w') := fun w => low_any w 0 (by omega) (by omega)
  clear hz hy hF hRT
  go_enter Try.func10, Try.ntmps10
  go_wp2_with fail
  refine (machine_any _ 64 1 (by omega) (by omega) (by omega) (by omega) (by omega)).mono ?_
  rintro e w1 ⟨mb, A0, rfl, hR0, hI0⟩
  have HR0 := hid hR0
  have HI0 := hid hI0
  have HS1 := hid (Rows1.start hR0 (Array.replicate 64 (.bool false)) (by simp) (fun i hi => by simp [hi]))
  clear hR0 hI0
  go_wp2_with fail
  go_loopw [13] (fun s13 wr => ∃ k : Nat, k ≤ len ∧ k ≤ 20 ∧ s13 = .int .i64 k ∧ ∃ H, cntF H 64 ≤ k ∧ Rows1 w wr mb w1.heap.size A0 H) (fun s13 _ => 20 - (intOf s13).toNat)
  case atStart => exact ⟨0, by omega, by omega, rfl, fun _ => false, cnt_none _, HS1.out⟩
  case round =>
    clear HS1 HR0
    rename World => wr
    obtain ⟨k, hk1, hk2, rfl, H, hc, hR⟩ := hrel
    have HR := hid hR
    by_cases hlt : k < len
    · have h20 : k < 20 := by omega
      · obtain ⟨b, off2, rfl, hcz, hz64⟩ := HZ.out.2 k hlt
        have hcz := hR.o.keep (fun q => q) hcz
        have hpb := pickI_bd (z k) 64 (by omega)
        have hk3 : (k : Int) < (len : Int) := by omega
        have hk4 : (k : Int) < 20 := by omega
        clear hR
        go_wp2_with fail
        refine (pick_any _ (z k) 64 hz64.1 hz64.2 (by omega) (by omega)).mono ?_
        rintro e wx ⟨rfl, rfl⟩
        have HN : Hid (∃ H', cntF H' 64 ≤ k + 1 ∧ Rows1 w (wr.setCell ⟨w1.heap.size, (pickI (z k) 64).toNat, none⟩ (.bool true)) mb w1.heap.size A0 H') := ⟨_, by have := cntF_put H (pickI (z k) 64).toNat 64; rw [if_pos (by omega)] at this; omega, HR.out.put _⟩
        obtain ⟨t1, r1⟩ := HR.out.2
        have hce := r1.cell (i := (pickI (z k) 64).toNat) (by omega)
        have hfr := r1.frozen (pickI (z k) 64).toNat
        have hltb := r1.lt
        clear r1
        generalize pickI (z k) 64 = p at *
        go_wp2_with fail
        go_roundw
        case rel => exact ⟨k + 1, by omega, by omega, by go_num, HN.out⟩
        case measure => simp [intOf]; omega
    · have hk3 : ¬ (k : Int) < (len : Int) := by omega
      have hc20 : cntF H 64 ≤ 20 := by omega
      have HW0 := hid (hR.two (Array.replicate 512 (.int .i64 0)) (by simp) (fun i hi => by simp [hi]))
      clear hR HR
      go_wp2_with fail
      refine (pick_any _ form 2 hf.1 hf.2 (by omega) (by omega)).mono ?_
      rintro e wx ⟨rfl, rfl⟩
      rw [HF.out]
      have HS2 : Hid (Rows2 w (wr.alloc (.cells (Array.replicate 512 (.int .i64 0)) 60)) mb w1.heap.size wr.heap.size A0 H (oldG H (oldF len2 y H) 0 0)) := by
        have : (fun _ => 0) = oldG H (oldF len2 y H) 0 0 := by
          funext j
          simp [oldG]
        rw [← this]
        exact HW0.out
      clear HW0
      generalize hgb : wr.heap.size = gb at *
      go_wp2_with fail
      go_loopw [14, 15, 17, 18] (fun s14 s15 s17 s18 wq => ∃ p : Nat, p ≤ 64 ∧ s18 = .int .i64 p ∧ s14 = .int .i64 (cntF H p) ∧ s15 = .string (toS (oldB true H (oldF len2 y H) p)) ∧ s17 = .int .i64 (oldN len2 (8 * cntF H p)) ∧ Rows2 w wq mb w1.heap.size gb A0 H (oldG H (oldF len2 y H) p 0)) (fun _ _ _ s18 _ => 64 - (intOf s18).toNat)
      case atStart => exact ⟨0, by omega, rfl, rfl, rfl, by simp [oldN, cntF], HS2.out⟩
      case round =>
        clear HS2
        rename World => wq
        obtain ⟨p, hp, rfl, rfl, rfl, rfl, hR⟩ := hrel
        have HR := hid hR
        by_cases hlt2 : p < 64
        · have hp2 : (p : Int) < 64 := by omega
          obtain ⟨t1, r1⟩ := hR.2.2.1
          have hce := r1.cell (i := p) hlt2
          clear r1 hR
          cases hh : H p with
          | false =>
            rw [hh] at hce
            have HN : Hid (Rows2 w wq mb w1.heap.size gb A0 H (oldG H (oldF len2 y H) (p + 1) 0)) := by
              have : oldG H (oldF len2 y H) (p + 1) 0 = oldG H (oldF len2 y H) p 0 := by
                funext j
                simp only [oldG, Nat.not_lt_zero, and_false, or_false]
                by_cases e : j / 8 = p
                · rw [e, hh]; simp
                · have : (j / 8 < p + 1) = (j / 8 < p) := by apply propext; omega
                  simp only [this]
              rw [this]
              exact HR.out
            have HB : Hid (oldB true H (oldF len2 y H) (p + 1) = oldB true H (oldF len2 y H) p ∧ cntF H (p + 1) = cntF H p) := ⟨by rw [oldB, hh]; rfl, by rw [cntF_next, hh]; rfl⟩
            go_wp2_with fail
            go_roundw
            case rel => exact ⟨p + 1, by omega, by go_num, by rw [HB.out.2], by rw [HB.out.1], by rw [HB.out.2], HN.out⟩
            case measure => simp [intOf]; omega
          | true =>
            rw [hh] at hce
            have hst1 := run_lit_string (w := wq) (l := [p]) (cs := #[.int .u8 p]) (n := 1) rfl rfl (fun x hx => by simp only [List.mem_cons, List.not_mem_nil, or_false] at hx; omega) (by simp)
            have hst1b := run_lit_string (w := wq.alloc (.cells #[.int .u8 p] 5)) (l := [p % 2]) (cs := #[.int .u8 ((p : Int) % 2)]) (n := 1) rfl (by simp only [byv, List.map_cons, List.map_nil, List.cons.injEq, and_true, Value.int.injEq, true_and]; omega) (fun x hx => by simp only [List.mem_cons, List.not_mem_nil, or_false] at hx; omega) (by simp)
            rw [World.size_alloc] at hst1b
            have hbl : (toS (oldB true H (oldF len2 y H) p)).size ≤ 2000 := by rw [toS_size, oldB_len, lE_true]; have := cntF_mono (f := H) (p := p) (q := 64) (by omega); omega
            have hcl : cntF H p ≤ 20 := by have := cntF_mono (f := H) (p := p) (q := 64) (by omega); omega
            generalize hBB : oldB true H (oldF len2 y H) p = BB at *
            have hadd1 := run_string_add_sum (P := Try.prog) (a := toS BB) (b := toS [p]) (h := by rw [toS_size [p]]; simp; omega)
            rw [toS_append] at hadd1
            have hadd1b := run_string_add_sum (P := Try.prog) (a := toS (BB ++ [p])) (b := toS [p % 2]) (h := by rw [toS_size] at hbl; rw [toS_size, toS_size]; simp; omega)
            rw [toS_append] at hadd1b
            have HRB : Hid (∀ o o2, Rows2 w ((wq.alloc o).alloc o2) mb w1.heap.size gb A0 H (oldG H (oldF len2 y H) p 0)) := fun o o2 => HR.out.nob (((Only.refl _ _).alloc o).alloc o2)
            have hE0 : BB ++ [p] ++ [p % 2] = BB ++ oldE true (oldF len2 y H) p 0 := by rw [List.append_assoc]; rfl
            rw [hE0] at hadd1b
            clear hE0
            go_wp2_with fail
            go_loopw [15, 17, 19] (fun s15 s17 s19 wi => ∃ i : Nat, i ≤ 8 ∧ s19 = .int .i64 i ∧ s15 = .string (toS (BB ++ oldE true (oldF len2 y H) p i)) ∧ s17 = .int .i64 (oldN len2 (8 * cntF H p + i)) ∧ Rows2 w wi mb w1.heap.size gb A0 H (oldG H (oldF len2 y H) p i)) (fun _ _ s19 _ => 8 - (intOf s19).toNat)
            case atStart => exact ⟨0, by omega, rfl, rfl, rfl, HRB.out _ _⟩
            case round =>
              clear HR HRB hadd1 hadd1b hst1 hst1b
              rename World => wi
              obtain ⟨i, hi, rfl, rfl, rfl, hRi⟩ := hrel
              have HRi := hid hRi
              by_cases hlt3 : i < 8
              · have hi2 : (i : Int) < 8 := by omega
                obtain ⟨hx0, hx1⟩ := oldF_bd len2 y H p i
                have HNX : Hid (∀ x, oldF len2 y H p i = x → Rows2 w (wi.setCell ⟨gb, 8 * p + i, none⟩ (.int .i64 x)) mb w1.heap.size gb A0 H (oldG H (oldF len2 y H) p (i + 1))) := fun x hx => by
                  have := HRi.out.put (8 * p + i) x
                  have e : (fun q => if q = 8 * p + i then x else oldG H (oldF len2 y H) p i q) = oldG H (oldF len2 y H) p (i + 1) := by
                    funext j
                    by_cases e : j = 8 * p + i
                    · have e1 : j / 8 = p := by omega
                      have e2 : j % 8 = i := by omega
                      rw [if_pos e]
                      simp [oldG, e1, e2, hx]
                    · rw [if_neg e]
                      simp only [oldG]
                      have : (j / 8 = p ∧ j % 8 < i + 1) = (j / 8 = p ∧ j % 8 < i) := by apply propext; omega
                      simp only [this]
                  rw [e] at this
                  exact this
                obtain ⟨t2, r2⟩ := hRi.2.2.2
                have hcg := r2.cell (i := 8 * p + i) (by omega)
                have hfg := r2.frozen (8 * p + i)
                have hgl := r2.lt
                have HRO := hid hRi.o
                clear r2 hRi
                have HEX : Hid (∀ x, oldF len2 y H p i = x → oldE true (oldF len2 y H) p (i + 1) = oldE true (oldF len2 y H) p i ++ [x.toNat % 256, x.toNat / 256]) := fun x hx => by subst hx; rfl
                have HLB : Hid ((toS (BB ++ oldE true (oldF len2 y H) p i)).size ≤ 3000) := by
                  have := oldE_len (fl := true) (f := oldF len2 y H) p i
                  rw [toS_size] at hbl
                  simp only [Hid, toS_size, List.length_append]
                  simp at this
                  omega
                have hpi : (8 * p + i : Nat) < 512 := by omega
                by_cases hw : len2 = 0
                · subst hw
                  have hX : oldF 0 y H p i = 0 := by rw [oldF, if_pos rfl]
                  have hw2 : ¬ (0 : Int) < ((0 : Nat) : Int) := by omega
                  have HNX2 := hid (HNX.out 0 hX)
                  have HEX2 := hid (HEX.out 0 hX)
                  have hn0 : ∀ m, oldN 0 m = 0 := fun m => by rw [oldN, if_pos rfl]
                  rw [hn0]
                  have HN0 := hid hn0
                  clear HNX HEX hX hn0
                  generalize oldE true (oldF 0 y H) p i = EE at *
                  have hadd2 := run_string_add_sum (P := Try.prog) (a := toS (BB ++ EE)) (b := toS [0, 0]) (h := by rw [toS_size [0, 0]]; have := HLB.out; simp; omega)
                  rw [toS_append] at hadd2
                  go_wp2_with fail
                  refine (HL0.out _).mono ?_
                  rintro e wl ⟨rfl, ol⟩
                  have HOL := hid (HNX2.out.nob ol)
                  clear ol hw2
                  go_wp2_with fail
                  go_roundw
                  case rel => exact ⟨i + 1, by omega, by go_num, by rw [HEX2.out]; rfl, by rw [HN0.out], HOL.out⟩
                  case measure => simp [intOf]; omega
                · obtain ⟨b, off2, rfl, hcz, hz64⟩ := HY.out.2 ((8 * cntF H p + i) % len2) (Nat.mod_lt _ (by omega))
                  have hcz := HRO.out.keep (fun q => q) hcz
                  have hX : oldF len2 y H p i = pickI (y ((8 * cntF H p + i) % len2)) 65536 := by rw [oldF, if_neg hw]
                  have hw2 : (0 : Int) < (len2 : Int) := by omega
                  have HNX2 := hid (HNX.out _ hX)
                  have HEX2 := hid (HEX.out _ hX)
                  rw [hX] at hx0 hx1
                  have hn0 : ∀ m, oldN len2 m = (m : Int) := fun m => by rw [oldN, if_neg hw]
                  rw [hn0]
                  have HN0 := hid hn0
                  have hmm : (8 * cntF H p + i) % len2 < len2 := Nat.mod_lt _ (by omega)
                  have hmod : (((8 * cntF H p + i : Nat) : Int)).tmod (len2 : Int) = (((8 * cntF H p + i) % len2 : Nat) : Int) := by rw [Int.ofNat_tmod]
                  clear HNX HEX hX hn0
                  generalize (8 * cntF H p + i) % len2 = m at *
                  generalize hNN : (8 * cntF H p + i) = NN at *
                  have hNN2 : NN ≤ 200 := by omega
                  generalize oldE true (oldF len2 y H) p i = EE at *
                  go_wp2_with fail
                  refine (pick_any _ (y m) 65536 hz64.1 hz64.2 (by omega) (by omega)).mono ?_
                  rintro e wx ⟨rfl, rfl⟩
                  generalize pickI (y m) 65536 = x at *
                  have hadd2 := run_string_add_sum (P := Try.prog) (a := toS (BB ++ EE)) (b := toS [x.toNat % 256, x.toNat / 256]) (h := by rw [toS_size [x.toNat % 256, x.toNat / 256]]; have := HLB.out; simp; omega)
                  rw [toS_append] at hadd2
                  go_wp2_with fail
                  refine (low_any _ x (by omega) (by omega)).mono ?_
                  rintro e wl ⟨rfl, ol⟩
                  have HOL := hid (HNX2.out.nob ol)
                  clear ol
                  rw [show x.toNat / 256 % 256 = x.toNat / 256 by omega]
                  go_wp2_with fail
                  go_roundw
                  case rel => exact ⟨i + 1, by omega, by go_num, by rw [HEX2.out], by rw [HN0.out]; go_num, HOL.out⟩
                  case measure => simp [intOf]; omega
              · have hi2 : ¬ (i : Int) < 8 := by omega
                have hi8 : i = 8 := by omega
                subst hi8
                have HB : Hid (oldB true H (oldF len2 y H) (p + 1) = BB ++ oldE true (oldF len2 y H) p 8 ∧ cntF H (p + 1) = cntF H p + 1) := ⟨by rw [oldB, hh, hBB]; rfl, by rw [cntF_next, hh]; rfl⟩
                have HN : Hid (Rows2 w wi mb w1.heap.size gb A0 H (oldG H (oldF len2 y H) (p + 1) 0)) := by
                  have : oldG H (oldF len2 y H) (p + 1) 0 = oldG H (oldF len2 y H) p 8 := by
                    funext j
                    simp only [oldG, Nat.not_lt_zero, and_false, or_false]
                    by_cases e : j / 8 = p
                    · have h1 : j % 8 < 8 := by omega
                      simp [e, hh, h1]
                    · have : (j / 8 < p + 1) = (j / 8 < p) := by apply propext; omega
                      simp [this, e]
                  rw [this]
                  exact HRi.out
                clear hRi
                go_wp2_with fail
                go_roundw
                case rel => exact ⟨p + 1, by omega, by go_num, by rw [HB.out.2]; go_num, by rw [HB.out.1], by rw [HB.out.2]; rfl, HN.out⟩
                case measure => simp [intOf]; omega
        · have hp2 : ¬ (p : Int) < 64 := by omega
          have hp64 : p = 64 := by omega
          subst hp64
          have hlB := oldB_len (fl := true) (has := H) (f := oldF len2 y H) 64
          have hst3 := run_lit_string (w := wq) (l := [2]) (cs := #[.int .u8 2]) (n := 1) rfl rfl (fun x hx => by simp at hx; omega) (by simp)
          have hadd3 := run_string_add_sum (P := Try.prog) (a := ⟨#[67, 86]⟩) (b := toS [2]) (h := by rw [toS_size]; decide)
          rw [show (⟨#[67, 86]⟩ : ByteArray) ++ toS [2] = toS [67, 86, 2] from toS_append [67, 86] [2]] at hadd3
          have hst3b := run_lit_string (w := wq.alloc (.cells #[.int .u8 2] 5)) (l := [ρ]) (cs := #[.int .u8 (ρ : Int)]) (n := 1) rfl rfl (fun x hx => by simp only [List.mem_cons, List.not_mem_nil, or_false] at hx; omega) (by simp)
          rw [World.size_alloc] at hst3b
          have hadd3b := run_string_add_sum (P := Try.prog) (a := toS [67, 86, 2]) (b := toS [ρ]) (h := by rw [toS_size, toS_size]; simp)
          rw [toS_append, show [67, 86, 2] ++ [ρ] = [67, 86, 2, ρ] from rfl] at hadd3b
          have hst4 := run_lit_string (w := ((wq.alloc (.cells #[.int .u8 2] 5)).alloc (.cells #[.int .u8 (ρ : Int)] 5))) (l := [cntF H 64]) (cs := #[.int .u8 (cntF H 64)]) (n := 1) rfl rfl (fun x hx => by simp only [List.mem_cons, List.not_mem_nil, or_false] at hx; omega) (by simp)
          rw [World.size_alloc, World.size_alloc] at hst4
          have hadd4 := run_string_add_sum (P := Try.prog) (a := toS [67, 86, 2, ρ]) (b := toS [cntF H 64]) (h := by rw [toS_size, toS_size]; simp)
          rw [toS_append, show [67, 86, 2, ρ] ++ [cntF H 64] = [67, 86, 2, ρ, cntF H 64] from rfl] at hadd4
          have hadd5 := run_string_add_sum (P := Try.prog) (a := toS [67, 86, 2, ρ, cntF H 64]) (b := toS (oldB true H (oldF len2 y H) 64)) (h := by rw [toS_size, toS_size, hlB, lE_true]; simp; omega)
          rw [toS_append, show [67, 86, 2, ρ, cntF H 64] ++ oldB true H (oldF len2 y H) 64 = oldA (ρ : Int) true H (oldF len2 y H) by rw [oldA, oldH, show rootB (ρ : Int) = ρ by rw [rootB, if_neg (by omega)]; omega]; rfl] at hadd5
          have HAL : Hid ((oldA (ρ : Int) true H (oldF len2 y H)).length = 5 + cntF H 64 * 18) := by rw [Hid, oldA_len]; simp [lAt, lE_true]
          have hm0 : (0 : Int) ≤ (cntF H 64 : Int) := by omega
          have hm1 : (cntF H 64 : Int) < 256 := by omega
          have HRB : Hid (∀ w', Only Nob wq w' → Rows2 w w' mb w1.heap.size gb A0 H (oldG H (oldF len2 y H) 64 0)) := fun w' o => HR.out.nob o
          clear hR HR
          generalize hAA : oldA (ρ : Int) true H (oldF len2 y H) = AA at *
          generalize oldB true H (oldF len2 y H) 64 = BB at *
          go_wp2_with fail
          refine (pick_any _ root 65 hr.1 hr.2 (by omega) (by omega)).mono ?_
          rintro e wx ⟨rfl, rfl⟩
          rw [HRT.out]
          go_wp2_with fail
          go_loopw [22, 23] (fun s22 s23 wx => ∃ i : Nat, i ≤ AA.length ∧ s23 = .int .i64 i ∧ s22 = .int .i64 (AA.take i).sum ∧ Rows2 w wx mb w1.heap.size gb A0 H (oldG H (oldF len2 y H) 64 0)) (fun _ s23 _ => AA.length - (intOf s23).toNat)
          case atStart => exact ⟨0, by omega, rfl, rfl, HRB.out _ ((((Only.refl _ _).alloc _).alloc _).alloc _)⟩
          case round =>
            clear HRB hst3 hst4 hadd3 hadd3b hadd4 hadd5 hst3b
            rename World => wx
            obtain ⟨i, hi, rfl, rfl, hRx⟩ := hrel
            have HRx := hid hRx
            clear hRx
            have hsz := toS_size AA
            have HAL2 := HAL.out
            have HBy : Hid (Bys AA) := by
              rw [Hid, ← hAA]
              exact old_bys (by omega) (by omega) (by omega) (fun p k => oldF_bd _ _ _ _ _)
            have HSU : Hid ((AA.take i).sum ≤ 255 * i) := sum_le HBy.out i
            have hsu := HSU.out
            by_cases hlt3 : i < AA.length
            · have HS : Hid ((AA.take (i + 1)).sum = (AA.take i).sum + bt AA i) := by
                rw [Hid, take_snoc hlt3, List.sum_append]; simp
              have hiS : i < (toS AA).size := by omega
              have HB := hid (nats_bt hiS)
              have HNA := hid (nats_toS HBy.out)
              have hb := bytes_bt HBy.out i
              have hb2 : ((toS AA)[i].toNat : Int) < 256 := by rw [HB.out, HNA.out]; omega
              have hb0 : (0 : Int) ≤ ((toS AA)[i].toNat : Int) := by omega
              have hi3 : (i : Int) < ((toS AA).size : Nat) := by omega
              generalize hSM : (AA.take i).sum = sm at *
              go_wp2_with fail
              go_roundw
              case rel => exact ⟨i + 1, by omega, by go_num, by rw [HS.out, HB.out, HNA.out]; go_num, HRx.out⟩
              case measure => simp [intOf]; omega
            · have hi3 : ¬ (i : Int) < ((toS AA).size : Nat) := by omega
              have e : AA.take i = AA := List.take_of_length_le (by omega)
              rw [e] at hsu ⊢
              have HVL := hid (old_valid (fl := true) (has := H) (f := oldF len2 y H) (r := (ρ : Int)) (by omega) (by omega) (fun q => by cases q) (fun p k _ _ => oldF_bd _ _ _ _ _))
              have HLB : Hid (Bys (oldL (ρ : Int) true H (oldF len2 y H))) := oldL_bys (by rw [hAA]; exact HBy.out)
              have HLE : Hid (oldL (ρ : Int) true H (oldF len2 y H) = AA ++ [AA.sum % 256, AA.sum / 256 % 256]) := by rw [Hid, oldL, hAA]; rfl
              have hadd6 := run_string_add_sum (P := Try.prog) (a := toS AA) (b := toS [AA.sum % 256, AA.sum / 256 % 256]) (h := by rw [toS_size, toS_size]; simp; omega)
              rw [toS_append, ← HLE.out] at hadd6
              have HLL : Hid ((oldL (ρ : Int) true H (oldF len2 y H)).length = 7 + cntF H 64 * 18) := by rw [Hid, HLE.out, List.length_append, HAL2]; simp; omega
              have HPV : Hid (∀ p, p < 64 → (oldPic (ρ : Int) true H (oldF len2 y H)).pr p = false → (oldPic (ρ : Int) true H (oldF len2 y H)).wr p = false ∧ ∀ k, k < 8 → (oldPic (ρ : Int) true H (oldF len2 y H)).wd p k = 0) := fun p _ hq => by
                have hq : H p = false := hq
                simp [oldPic, hq]
              have HPE : Hid (∀ k : Nat, (if (oldPic (ρ : Int) true H (oldF len2 y H)).pr (k / 8) then ((oldPic (ρ : Int) true H (oldF len2 y H)).wd (k / 8) (k % 8), (0 : Int)) else ((0 : Int), (7 : Int))) = if H (k / 8) then (oldF len2 y H (k / 8) (k % 8), 0) else (0, 7)) := fun k => by
                simp only [oldPic]
                by_cases hq : H (k / 8) = true <;> simp [hq]
              have HPC : Hid (cntF (oldPic (ρ : Int) true H (oldF len2 y H)).pr 64 ≤ 20) := hc20
              have HG64 : Hid (∀ k, k < 512 → H (k / 8) = true → oldG H (oldF len2 y H) 64 0 k = oldF len2 y H (k / 8) (k % 8)) := fun k hk hq => by
                rw [oldG, if_pos (Or.inl ⟨by omega, hq⟩)]
              have HB2 : Hid (bt (oldL (ρ : Int) true H (oldF len2 y H)) 2 ≠ 3) := show (2 : Nat) ≠ 3 by omega
              generalize oldG H (oldF len2 y H) 64 0 = G64 at *
              generalize oldPic (ρ : Int) true H (oldF len2 y H) = P at *
              generalize oldL (ρ : Int) true H (oldF len2 y H) = LL at *
              have HUP : Hid (∀ wz : World, Calls Try.prog 26 #[.string (toS LL)] wz fun e w' => e = .returned (.tuple #[.string (toS (encL P)), .int .i64 0]) ∧ Only Nob wz w') := fun wz => by
                refine (upgrade_any wz (toS LL) (by rw [toS_size, HLL.out]; unfold maxLen; omega)).mono ?_
                rintro e w' ⟨q1, _, q3⟩
                rw [nats_toS HLB.out] at q1
                have q := q1 HVL.out.1
                rw [encL_congr HVL.out.2] at q
                exact ⟨q, q3⟩
              have hs6 : AA.sum ≤ 1000000 := by omega
              clear HSU HBy e hsu
              go_wp2_with fail
              refine (low_any _ (AA.sum : Nat) (by omega) (by omega)).mono ?_
              rintro e wl ⟨rfl, ol⟩
              have HRL := hid (HRx.out.nob ol)
              clear ol
              rw [Int.toNat_natCast]
              go_wp2_with fail
              refine (HUP.out _).mono ?_
              rintro e w20 ⟨rfl, o20⟩
              have HR20 := hid (HRL.out.nob o20)
              clear o20
              go_wp2_with fail
              refine (HR20.out.restore HI0.out HVL.out.1 HLB.out (by rw [HLL.out]; omega) HVL.out.2 HPV.out HPC.out).mono ?_
              rintro e w21 ⟨rfl, A1, hr1, hs1, hh1, hk1⟩
              have HX1 := hid (And.intro hr1 (And.intro hs1 (And.intro hh1 hk1)))
              clear hr1 hs1 hh1 hk1
              go_wp2_with fail
              refine (HX1.out.1.save HX1.out.2.1 HX1.out.2.2.1 HX1.out.2.2.2).mono ?_
              rintro e w22 ⟨rfl, hr2⟩
              have HX2 : Hid (∃ A', Rows2 w w22 mb w1.heap.size gb A' H G64 ∧ (A'.pic 2).Same P ∧ A'.has 2 = true ∧ A'.kn ≤ 80 + 0) := ⟨_, hr2, HX1.out.2.1, HX1.out.2.2.1, by show A1.kn + 64 ≤ 80 + 0; have := HX1.out.2.2.2; omega⟩
              clear hr2 HX1
              generalize toS (encL P) = TT at *
              go_wp2_with fail
              go_loopw [30] (fun s30 wy => ∃ k : Nat, k ≤ 512 ∧ s30 = .int .i64 k ∧ ∃ A', Rows2 w wy mb w1.heap.size gb A' H G64 ∧ (A'.pic 2).Same P ∧ A'.has 2 = true ∧ A'.kn ≤ 80 + k) (fun s30 _ => 512 - (intOf s30).toNat)
              case atStart => exact ⟨0, by omega, rfl, HX2.out⟩
              case round =>
                clear HX2
                rename World => wy
                obtain ⟨kk, hkk, rfl, A2, hr2, hs2, hh2, hk2'⟩ := hrel
                by_cases hlt4 : kk < 512
                · have hk5 : (kk : Int) < 512 := by omega
                  have HX3 := hid (And.intro hr2 (And.intro hs2 (And.intro hh2 hk2')))
                  clear hr2 hs2 hh2 hk2'
                  have e8 : ((kk : Int) / 8).toNat = kk / 8 := by omega
                  have e9 : (kk : Int).toNat = kk := by omega
                  cases hH : H (kk / 8) with
                  | true =>
                    go_wp2_with fail
                    refine (HX3.out.1.read HX3.out.2.1 HX3.out.2.2.1 HX3.out.2.2.2 (by omega) hlt4 (x := oldF len2 y H (kk / 8) (kk % 8)) (c := 0) (by rw [HPE.out, hH]; rfl)).mono ?_
                    rintro e w23 ⟨rfl, A3, hr3, hq3⟩
                    obtain ⟨t3, r3⟩ := hr3.2.2.1
                    obtain ⟨t4, r4⟩ := hr3.2.2.2
                    have hca := r3.cell (i := kk / 8) (by omega)
                    have hcb := r4.cell (i := kk) hlt4
                    rw [hH] at hca
                    simp only [HG64.out kk hlt4 hH] at hcb
                    have HX4 := hid (And.intro hr3 hq3)
                    clear hr3 hq3 r3 r4
                    generalize oldF len2 y H (kk / 8) (kk % 8) = x at *
                    go_wp2_with fail
                    go_roundw
                    case rel => exact ⟨kk + 1, by omega, by go_num, A3, HX4.out.1, HX4.out.2.1, HX4.out.2.2.1, by have := HX4.out.2.2.2; omega⟩
                    case measure => simp [intOf]; omega
                  | false =>
                    go_wp2_with fail
                    refine (HX3.out.1.read HX3.out.2.1 HX3.out.2.2.1 HX3.out.2.2.2 (by omega) hlt4 (x := 0) (c := 7) (by rw [HPE.out, hH]; rfl)).mono ?_
                    rintro e w23 ⟨rfl, A3, hr3, hq3⟩
                    obtain ⟨t3, r3⟩ := hr3.2.2.1
                    obtain ⟨t4, r4⟩ := hr3.2.2.2
                    have hca := r3.cell (i := kk / 8) (by omega)
                    have hcb := r4.cell (i := kk) hlt4
                    rw [hH] at hca
                    have HX4 := hid (And.intro hr3 hq3)
                    clear hr3 hq3 r3 r4
                    go_wp2_with fail
                    go_roundw
                    case rel => exact ⟨kk + 1, by omega, by go_num, A3, HX4.out.1, HX4.out.2.1, HX4.out.2.2.1, by have := HX4.out.2.2.2; omega⟩
                    case measure => simp [intOf]; omega
                · have hk5 : ¬ (kk : Int) < 512 := by omega
                  have HO9 := hid hr2.o
                  clear hr2 hs2 hh2 hk2'
                  have hsl := toS_size LL
                  have HLL5 : Hid (5 ≤ LL.length ∧ LL.length ≤ 400) := by have := HLL.out; exact ⟨by omega, by omega⟩
                  have hl5 := HLL5.out.1
                  have hl4 := HLL5.out.2
                  clear HLL
                  have hpo := pickI_bd off (LL.length : Int) (by omega)
                  go_wp2_with fail
                  refine (pick_any _ off (LL.length : Int) ho.1 ho.2 (by omega) (by omega)).mono ?_
                  rintro e wz ⟨rfl, rfl⟩
                  generalize pickI off (LL.length : Int) = at' at *
                  obtain ⟨a, rfl⟩ : ∃ a : Nat, at' = (a : Int) := ⟨at'.toNat, by omega⟩
                  have HUX : Hid (∀ s : ByteArray, s.size ≤ 3000 → ¬ Valid (nats s) → ∀ wz : World, Calls Try.prog 26 #[.string s] wz fun e w' => e = .returned (.tuple #[.string { data := #[] }, .int .i64 10]) ∧ Only Nob wz w') := fun s h1 h2 wz => by
                    refine (upgrade_any wz s (by unfold maxLen; omega)).mono ?_
                    rintro e w' ⟨_, q2, q3⟩
                    exact ⟨q2 h2, q3⟩
                  by_cases h2 : a = 2
                  · subst h2
                    obtain ⟨w30, cap30, hcv, ho30, hl30, hc30, hf30⟩ := old_bytes wy HLB.out
                    have HO30 := hid ho30
                    have hcl := hc30 3 (by omega)
                    have hfz := hf30 3 (by omega)
                    have hbx := bytes_bt HLB.out 3
                    obtain ⟨yy, hy1, hy2, hy3⟩ := xor_one hbx
                    have hst9 := old_turned (cap := cap30) HLB.out hc30 (i := 3) (y := yy) (by omega) hy2
                    have hadd9 := run_string_add_sum (P := Try.prog) (a := toS LL) (b := ⟨#[0]⟩) (h := by rw [hsl]; have : (⟨#[0]⟩ : ByteArray).size = 1 := rfl; omega)
                    rw [show toS LL ++ (⟨#[0]⟩ : ByteArray) = toS (LL ++ [0]) from toS_append LL [0]] at hadd9
                    have HU1 := hid (HUX.out (toS (LL.set 3 yy)) (by rw [toS_size, List.length_set]; omega) (by rw [nats_toS (set_bys HLB.out hy2)]; exact old_other HVL.out.1 HB2.out (by omega) (by omega) hy3))
                    have HU2 := hid (HUX.out (toS (LL ++ [0])) (by rw [toS_size, List.length_append]; simp; omega) (by rw [nats_toS (app_bys HLB.out)]; exact old_more HVL.out.1 HB2.out hl5 0))
                    have HU3 := hid (HUX.out ((toS LL).extract 0 3) (by rw [ByteArray.size_extract, hsl]; omega) (by rw [nats_extract, nats_toS HLB.out, List.drop_zero, Nat.sub_zero]; exact old_less HVL.out.1 HB2.out (by omega)))
                    clear ho30 hc30 hf30
                    go_wp2_with fail
                    refine (HU1.out _).mono ?_
                    rintro e w31 ⟨rfl, ho31⟩
                    have HO31 : Hid (Only Nob wy w31) := by
                      refine Only.trans ?_ ho31
                      exact HO30.out.after ((Only.refl (One wy.heap.size) w30).setCell (p := ⟨wy.heap.size, 3, none⟩) (fun _ => rfl) _) (fun b hb q => by have q : b = wy.heap.size := q; omega)
                    clear ho31
                    go_wp2_with fail
                    refine (HU2.out _).mono ?_
                    rintro e w32 ⟨rfl, ho32⟩
                    have HO32 := hid (HO31.out.trans ho32)
                    clear ho32
                    go_wp2_with fail
                    refine (HU3.out _).mono ?_
                    rintro e w33 ⟨rfl, ho33⟩
                    have HO33 := hid (HO32.out.trans ho33)
                    clear ho33
                    go_wp2_with fail
                    go_ret
                    exact ⟨rfl, (HO9.out.trans HO33.out).below (fun _ _ q => q)⟩
                  · have h22 : ((a : Int) == 2) = false := by rw [beq_eq_false_iff_ne]; omega
                    obtain ⟨w30, cap30, hcv, ho30, hl30, hc30, hf30⟩ := old_bytes wy HLB.out
                    have HO30 := hid ho30
                    have hcl := hc30 a (by omega)
                    have hfz := hf30 a (by omega)
                    have hbx := bytes_bt HLB.out a
                    obtain ⟨yy, hy1, hy2, hy3⟩ := xor_one hbx
                    have hst9 := old_turned (cap := cap30) HLB.out hc30 (i := a) (y := yy) (by omega) hy2
                    have hadd9 := run_string_add_sum (P := Try.prog) (a := toS LL) (b := ⟨#[0]⟩) (h := by rw [hsl]; have : (⟨#[0]⟩ : ByteArray).size = 1 := rfl; omega)
                    rw [show toS LL ++ (⟨#[0]⟩ : ByteArray) = toS (LL ++ [0]) from toS_append LL [0]] at hadd9
                    have HU1 := hid (HUX.out (toS (LL.set a yy)) (by rw [toS_size, List.length_set]; omega) (by rw [nats_toS (set_bys HLB.out hy2)]; exact old_other HVL.out.1 HB2.out (by omega) h2 hy3))
                    have HU2 := hid (HUX.out (toS (LL ++ [0])) (by rw [toS_size, List.length_append]; simp; omega) (by rw [nats_toS (app_bys HLB.out)]; exact old_more HVL.out.1 HB2.out hl5 0))
                    have HU3 := hid (HUX.out ((toS LL).extract 0 a) (by rw [ByteArray.size_extract, hsl]; omega) (by rw [nats_extract, nats_toS HLB.out, List.drop_zero, Nat.sub_zero]; exact old_less HVL.out.1 HB2.out (by omega)))
                    clear ho30 hc30 hf30
                    go_wp2_with fail
                    refine (HU1.out _).mono ?_
                    rintro e w31 ⟨rfl, ho31⟩
                    have HO31 : Hid (Only Nob wy w31) := by
                      refine Only.trans ?_ ho31
                      exact HO30.out.after ((Only.refl (One wy.heap.size) w30).setCell (p := ⟨wy.heap.size, a, none⟩) (fun _ => rfl) _) (fun b hb q => by have q : b = wy.heap.size := q; omega)
                    clear ho31
                    go_wp2_with fail
                    refine (HU2.out _).mono ?_
                    rintro e w32 ⟨rfl, ho32⟩
                    have HO32 := hid (HO31.out.trans ho32)
                    clear ho32
                    go_wp2_with fail
                    refine (HU3.out _).mono ?_
                    rintro e w33 ⟨rfl, ho33⟩
                    have HO33 := hid (HO32.out.trans ho33)
                    clear ho33
                    go_wp2_with fail
                    go_ret
                    exact ⟨rfl, (HO9.out.trans HO33.out).below (fun _ _ q => q)⟩
end Go.Proofs.Ytfcepnhknmbaaaa
