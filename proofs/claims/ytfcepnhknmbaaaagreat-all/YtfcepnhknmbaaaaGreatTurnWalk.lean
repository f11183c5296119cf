/- The contract of a machine's turn: the walk by a guest's own tables. -/
import Derived.Test.YtfcepnhknmbaaaaGreatTurnBase
namespace Go.Proofs.YtfcepnhknmbaaaaGreat
open Go.RowKit Go.Deep
open Go.Maps (Keyed)

theorem After.rebase {w w1 w2 : World} {mb n : Nat} {S : MS} {H : Hs} (o : Only Nob w w1) (h : After w1 w2 mb S H n) : After w w2 mb S H n := by
  obtain ⟨kb, kn, K, h⟩ := h
  refine ⟨kb, kn, K, h.m, h.i, h.kn, fun b hb => (h.kb b hb).imp id (fun q => ?_), (o.of_nob (S := S.own mb)).trans h.o⟩
  have := o.size
  omega

theorem hop_ret {P : Program} {l : Nat} {rest : Code} {Q : Exit → Act → World → Prop} {a : Act} {w : World} : hop P l rest Q .ret a w = Q .ret a w := rfl

/-- A block laid ahead of the walks is written. -/
theorem After.fin {w w1 w2 : World} {mb n B : Nat} {S : MS} {H : Hs} (hM : Mach w mb S) (o : Only Nob w w1) (h : After w1 w2 mb S H n) (hB : w.heap.size ≤ B) (hB1 : B < w1.heap.size) (u v : Value) :
    After w ((w2.setCell ⟨B, 0, none⟩ u).setCell ⟨B, 1, none⟩ v) mb S H n := by
  obtain ⟨kb, kn, K, h⟩ := h
  have o2 : Only (One B) w2 ((w2.setCell ⟨B, 0, none⟩ u).setCell ⟨B, 1, none⟩ v) := ((Only.refl _ _).setOne 0 u).setOne 1 v
  have hs := o.size
  refine ⟨kb, kn, K, h.m.only o2 (fun b hb q => ?_), h.i, h.kn, fun b hb => (h.kb b hb).imp id (fun q => by omega), ((o.of_nob (S := S.own mb)).trans h.o).after o2 (fun b hb q => absurd q (by simp only [One]; omega))⟩
  simp only [One] at q
  rcases hb with e | e | e | e | e
  · have := hM.lt; omega
  · have := hM.mem.ptr_lt; have : (S.cached kb kn K).mp = S.mp := rfl; omega
  · have := hM.mem.row_lt; have : (S.cached kb kn K).fb = S.fb := rfl; omega
  · have := hM.gst.lt; have : (S.cached kb kn K).gb = S.gb := rfl; omega
  · rcases h.kb b e with e2 | e2
    · have := hM.own_lt (Or.inr (Or.inr (Or.inr (Or.inr e2)))); omega
    · omega

set_option maxRecDepth 100000 in
set_option maxHeartbeats 1000000 in
theorem turn_any (w : World) (mb : Nat) (S : MS) (H : Hs) (hM : Mach w mb S) (hI : Inv S H) (g p : Int) (r : Nat) (st : Bool) (hg : In64 g) (hG : S.G g = some r) (h0 : 0 ≤ p) (h1 : p < 64) (hk : S.kn + 3 < maxLen) :
    Calls Tryz.prog 70 #[pt mb, .int .i64 g, .int .i64 p, .bool st] w fun e w' => e = .returned (.tuple #[.int .u16 (S.turned g r p.toNat st).1, .agg #[.int .i64 (S.turned g r p.toNat st).2.1, .int .i64 (S.turned g r p.toNat st).2.2]]) ∧ After w w' mb S H 3 := by
  have o1 : Only Nob w (w.alloc (.cells #[.int .i64 0, .int .i64 0] 53)) := (Only.refl _ _).alloc _
  have hA : After (w.alloc (.cells #[.int .i64 0, .int .i64 0] 53)) (w.alloc (.cells #[.int .i64 0, .int .i64 0] 53)) mb S H 0 := After.start (hM.nob o1) hI
  have hc1 := hA.c1
  have hrun := hA.gst.look (i := g) law3 Tryz.underlying64 (zero77 _) (key3 hg)
  simp only [MS.gst, hG, Option.map_some, Option.getD_some] at hrun
  have hfld := fun w => fld1 w S.mp r (S.Rt g)
  have hrt := hI.rt hG
  have hT0 : S.Rt g = -1 → S.turned g r p.toNat st = lev S.M r p.toNat st 0 p.toNat := fun e => by simp [MS.turned, e]
  have hT2 : S.Rt g ≠ -1 → S.turned g r p.toNat st = lev S.M r p.toNat st 2 (S.Rt g).toNat := fun e => by simp [MS.turned, e]
  generalize S.turned g r p.toNat st = T at *
  have HT0 := hid hT0
  have HT2 := hid hT2
  clear hT0 hT2
  have hB1 : w.heap.size < (w.alloc (.cells #[.int .i64 0, .int .i64 0] 53)).heap.size := by rw [World.size_alloc]; omega
  have HB1 := hid hB1
  clear hB1
  go_enter Tryz.func70, Tryz.ntmps70
  go_wp2
  refine wp_scope_hop 0 rfl ?_
  go_upto_if 25 with fail
  go_cut [13, 14] (fun c d wx => wx = w.alloc (.cells #[.int .i64 0, .int .i64 0] 53) ∧ ∃ n q : Nat, n ≤ 2 ∧ q < 64 ∧ c = .int .i64 (3 - n) ∧ d = .int .i64 q ∧ lev S.M r p.toNat st n q = T)
  case first =>
    by_cases hroot : S.Rt g = -1
    · have hne : (S.Rt g != -1) = false := by simp [hroot]
      go_wp2_with fail
      go_meet
      case rel => exact ⟨rfl, 0, p.toNat, by omega, by omega, rfl, by rw [Int.toNat_of_nonneg h0], (HT0.out hroot).symm⟩
    · have hne : (S.Rt g != -1) = true := by simp [hroot]
      go_wp2_with fail
      go_meet
      case rel => exact ⟨rfl, 2, (S.Rt g).toNat, by omega, by omega, rfl, by rw [Int.toNat_of_nonneg (by omega)], (HT2.out hroot).symm⟩
  case rest =>
    obtain ⟨rfl, n, q, hn, hq, rfl, rfl, hl⟩ := hcut
    clear hc1 hrun hfld hrt HT0 HT2
    have HM := hid hM
    have HK := hid hk
    have HO := hid o1
    clear hM hk o1
    have hle := hI.ok.le
    have hpn := fun (x : Nat) (hx : x < 64) (hy : pres (S.M.ent r x) = true) => (hI.ok.pageN hG hx hy).1
    have HPN := hid hpn
    clear hpn
    have hlay : ∀ w2 k, After (w.alloc (.cells #[.int .i64 0, .int .i64 0] 53)) w2 mb S H k → w2.cell? ⟨w.heap.size, 0, none⟩ = some (.int .i64 0) ∧ w2.cell? ⟨w.heap.size, 1, none⟩ = some (.int .i64 0) ∧ w2.frozen? ⟨w.heap.size, 0, none⟩ = false ∧ w2.frozen? ⟨w.heap.size, 1, none⟩ = false := fun w2 k h => by
      have hno : ¬ S.own mb w.heap.size := fun q => by have := HM.out.own_lt q; omega
      have r0 := World.rowIs_alloc w #[.int .i64 0, .int .i64 0] 53 (fun _ => .int .i64 0) (fun i hi => by
        have hi : i < 2 := hi
        have e : i = 0 ∨ i = 1 := by omega
        rcases e with e | e <;> subst e <;> rfl)
      have r1 := h.o.row r0 hno
      exact ⟨r1.cell (by show 0 < 2; omega), r1.cell (by show 1 < 2; omega), r1.frozen 0, r1.frozen 1⟩
    have HL := hid hlay
    clear hlay
    generalize hw1 : w.alloc (.cells #[.int .i64 0, .int .i64 0] 53) = w1 at *
    clear hw1
    have HI := hid hI
    clear hI
    go_wp2_with fail
    go_loopw [10, 11, 12, 13, 14] (fun _ _ _ lv mt wr => ∃ (n q : Nat) (l : Int), n ≤ 2 ∧ q < 64 ∧ l = 3 - n ∧ lv = .int .i64 l ∧ mt = .int .i64 q ∧ lev S.M r p.toNat st n q = T ∧ After w1 wr mb S H (2 - n)) (fun _ _ _ lv _ _ => (3 - intOf lv).toNat)
    case atStart => exact ⟨n, q, 3 - n, hn, hq, rfl, rfl, rfl, hl, hA.mono (by omega)⟩
    case round =>
      clear hl hA hn hq
      obtain ⟨n, q, l, hn, hq, hl3, rfl, rfl, hl, hA⟩ := hrel
      have hb := ent_bd hA.mem r q
      cases n with
      | zero =>
        have e3 : l = 3 := by omega
        subst e3
        have HV := hid hl
        clear hl hl3
        go_wp2_with fail
        refine (hA.walk hg hG (q := q) (by omega) (by omega) (by have := HK.out; omega)).mono ?_
        rintro e w2 ⟨rfl, hA2⟩
        obtain ⟨d0, d1, d2, d3⟩ := HL.out w2 _ hA2
        have hfin := hA2.fin HM.out HO.out (Nat.le_refl _) HB1.out
        cases hx : pres (S.M.ent r q) with
        | false =>
          have hTT : T = (0, 3, 3) := by rw [← HV.out]; simp [lev, hx]
          subst hTT
          go_wp2_with (go_at_call 56; refine (present_any _ _ hb.1 hb.2).mono ?_; rintro e w' ⟨rfl, rfl⟩)
          go_step3
          refine And.intro rfl ?_
          go_wp2
          rw [Exit.noGoto_ret]
          refine bodyPost_ret (v := .tuple #[.int .u16 0, .agg #[.int .i64 3, .int .i64 3]]) (by simp [results, Tryz.results70, go_sem, d0, d1]) rfl ⟨rfl, hfin _ _⟩
        | true =>
          cases st with
          | false =>
            have hTT : T = (S.M.ent r q, 0, 0) := by rw [← HV.out, lev, if_pos hx]; rfl
            subst hTT
            go_wp2_with (first | (go_at_call 56; refine (present_any _ _ hb.1 hb.2).mono ?_; rintro e w' ⟨rfl, rfl⟩) | (go_at_call 65; refine (writable_any _ _ hb.1 hb.2).mono ?_; rintro e w' ⟨rfl, rfl⟩))
            rw [hop_ret]
            refine bodyPost_ret (v := .tuple #[.int .u16 (S.M.ent r q), .agg #[.int .i64 0, .int .i64 0]]) (by simp [results, Tryz.results70, go_sem, d0, d1]) rfl ⟨rfl, hfin _ _⟩
          | true =>
            cases hw : wrib (S.M.ent r q) with
            | false =>
              have hTT : T = (0, 4, 3) := by rw [← HV.out, lev, if_pos hx, hw]; rfl
              subst hTT
              go_wp2_with (first | (go_at_call 56; refine (present_any _ _ hb.1 hb.2).mono ?_; rintro e w' ⟨rfl, rfl⟩) | (go_at_call 65; refine (writable_any _ _ hb.1 hb.2).mono ?_; rintro e w' ⟨rfl, rfl⟩))
              go_step3
              refine And.intro rfl ?_
              go_wp2
              rw [Exit.noGoto_ret]
              refine bodyPost_ret (v := .tuple #[.int .u16 0, .agg #[.int .i64 4, .int .i64 3]]) (by simp [results, Tryz.results70, go_sem, d0, d1]) rfl ⟨rfl, hfin _ _⟩
            | true =>
              have hTT : T = (S.M.ent r q, 0, 0) := by rw [← HV.out, lev, if_pos hx, hw]; rfl
              subst hTT
              go_wp2_with (first | (go_at_call 56; refine (present_any _ _ hb.1 hb.2).mono ?_; rintro e w' ⟨rfl, rfl⟩) | (go_at_call 65; refine (writable_any _ _ hb.1 hb.2).mono ?_; rintro e w' ⟨rfl, rfl⟩))
              rw [hop_ret]
              refine bodyPost_ret (v := .tuple #[.int .u16 (S.M.ent r q), .agg #[.int .i64 0, .int .i64 0]]) (by simp [results, Tryz.results70, go_sem, d0, d1]) rfl ⟨rfl, hfin _ _⟩
      | succ n =>
        have hl1 : l < 3 := by omega
        have hl0 : 1 ≤ l := by omega
        have e2 : ((2 : Int) - n) = l := by omega
        rw [lev, e2] at hl
        have HV := hid hl
        have HL3 := hid hl3
        clear hl hl3 e2
        go_wp2_with fail
        refine (hA.walk hg hG (q := q) (by omega) (by omega) (by have := HK.out; omega)).mono ?_
        rintro e w2 ⟨rfl, hA2⟩
        rw [Int.toNat_natCast]
        cases hx : pres (S.M.ent r q) with
        | false =>
          obtain ⟨d0, d1, d2, d3⟩ := HL.out w2 _ hA2
          have hfin := (hA2.mono (m := 3) (by omega)).fin HM.out HO.out (Nat.le_refl _) HB1.out
          have hTT : T = (0, 3, l) := by rw [← HV.out, if_neg (by rw [hx]; simp)]
          subst hTT
          go_wp2_with (go_at_call 56; refine (present_any _ _ hb.1 hb.2).mono ?_; rintro e w' ⟨rfl, rfl⟩)
          go_step3
          refine And.intro rfl ?_
          go_wp2
          rw [Exit.noGoto_ret]
          refine bodyPost_ret (v := .tuple #[.int .u16 0, .agg #[.int .i64 3, .int .i64 l]]) (by simp [results, Tryz.results70, go_sem, d0, d1]) rfl ⟨rfl, hfin _ _⟩
        | true =>
          have hm2 := hA2.mem
          have c0 := hA2.c0
          have hwb := hm2.wb (numb (S.M.ent r q)) (idx l p.toNat)
          have hnn := HPN.out q hq hx
          have hi8 : idx l p.toNat < 8 := by simp only [idx]; split <;> omega
          go_wp2_with (go_at_call 56; refine (present_any _ _ hb.1 hb.2).mono ?_; rintro e w' ⟨rfl, rfl⟩)
          go_quiet (first | (go_at_call 68; exact quiet_same (number_any _ _ hb.1 hb.2)) | (go_at_call 91; exact quiet_same (entryOf_any _ _ _ h0 h1)) | (go_at_call 89; exact quiet_same (word_any (mp := S.mp) (fb := S.fb) (M := S.M) _ _ _ (hm2.drewN _) (by omega) (by omega) (by omega) (by omega))))
          rw [Int.toNat_natCast, Int.toNat_natCast]
          have hA3 := hA2.nob ((Only.refl Nob w2).drewN nq)
          have HV := HV.out
          rw [if_pos hx] at HV
          generalize S.M.W (numb (S.M.ent r q)) (idx l p.toNat) = y at *
          generalize w2.drewN nq = w3 at *
          obtain ⟨d0, d1, d2, d3⟩ := HL.out w3 _ hA3
          have hfin := (hA3.mono (m := 3) (by omega)).fin HM.out HO.out (Nat.le_refl _) HB1.out
          clear hm2 c0 hA2 hA
          cases hy : pres y with
          | false =>
            have hTT : T = (0, 1, l) := by rw [← HV, if_neg (by rw [hy]; simp)]
            have HV := hid HV
            subst hTT
            go_wp2_with (first | (go_at_call 56; refine (present_any _ _ hwb.1 hwb.2).mono ?_; rintro e w' ⟨rfl, rfl⟩) | (go_at_call 65; refine (writable_any _ _ hwb.1 hwb.2).mono ?_; rintro e w' ⟨rfl, rfl⟩) | (go_at_call 68; refine (number_any _ _ hwb.1 hwb.2).mono ?_; rintro e w' ⟨rfl, rfl⟩))
            go_step3
            refine And.intro rfl ?_
            go_wp2
            rw [Exit.noGoto_ret]
            refine bodyPost_ret (v := .tuple #[.int .u16 0, .agg #[.int .i64 1, .int .i64 l]]) (by simp [results, Tryz.results70, go_sem, d0, d1]) rfl ⟨rfl, hfin _ _⟩
          | true =>
            rw [if_pos hy] at HV
            cases st with
            | false =>
              have HV := hid HV
              go_wp2_with (first | (go_at_call 56; refine (present_any _ _ hwb.1 hwb.2).mono ?_; rintro e w' ⟨rfl, rfl⟩) | (go_at_call 65; refine (writable_any _ _ hwb.1 hwb.2).mono ?_; rintro e w' ⟨rfl, rfl⟩) | (go_at_call 68; refine (number_any _ _ hwb.1 hwb.2).mono ?_; rintro e w' ⟨rfl, rfl⟩))
              go_roundw
              case rel => exact ⟨n, numb y, l + 1, by omega, by have := numb_lt y; omega, by have := HL3.out; omega, rfl, rfl, HV.out, hA3.mono (by omega)⟩
              case measure => simp [intOf]; omega
            | true =>
              cases hw : wrib y with
              | false =>
                have hTT : T = (0, 2, l) := by rw [← HV, hw]; rfl
                have HV := hid HV
                subst hTT
                go_wp2_with (first | (go_at_call 56; refine (present_any _ _ hwb.1 hwb.2).mono ?_; rintro e w' ⟨rfl, rfl⟩) | (go_at_call 65; refine (writable_any _ _ hwb.1 hwb.2).mono ?_; rintro e w' ⟨rfl, rfl⟩) | (go_at_call 68; refine (number_any _ _ hwb.1 hwb.2).mono ?_; rintro e w' ⟨rfl, rfl⟩))
                go_step3
                refine And.intro rfl ?_
                go_wp2
                rw [Exit.noGoto_ret]
                refine bodyPost_ret (v := .tuple #[.int .u16 0, .agg #[.int .i64 2, .int .i64 l]]) (by simp [results, Tryz.results70, go_sem, d0, d1]) rfl ⟨rfl, hfin _ _⟩
              | true =>
                rw [hw] at HV
                have HV := hid HV
                go_wp2_with (first | (go_at_call 56; refine (present_any _ _ hwb.1 hwb.2).mono ?_; rintro e w' ⟨rfl, rfl⟩) | (go_at_call 65; refine (writable_any _ _ hwb.1 hwb.2).mono ?_; rintro e w' ⟨rfl, rfl⟩) | (go_at_call 68; refine (number_any _ _ hwb.1 hwb.2).mono ?_; rintro e w' ⟨rfl, rfl⟩))
                go_roundw
                case rel => exact ⟨n, numb y, l + 1, by omega, by have := numb_lt y; omega, by have := HL3.out; omega, rfl, rfl, HV.out, hA3.mono (by omega)⟩
                case measure => simp [intOf]; omega
end Go.Proofs.YtfcepnhknmbaaaaGreat
