/- The contract of Share. -/
import Derived.Test.YtfcepnhknmbaaaaGreatLoadWalk
namespace Go.Proofs.YtfcepnhknmbaaaaGreat
open Go.RowKit Go.Deep
open Go.Maps (Keyed)

theorem pairs_length (L : List Int) : ∀ n : Nat, ((List.range n).flatMap fun p => L.map fun g => (g, p)).length = n * L.length
  | 0 => by simp
  | n + 1 => by
    rw [List.range_succ, List.flatMap_append, List.length_append, pairs_length L n]
    simp
    rw [Nat.succ_mul]

/-- A frame has few holders. -/
theorem Inv.users {S : MS} {H : Hs} (h : Inv S H) {f : Nat} (hf : IsPage S.M S.G f) : 0 ≤ S.M.U f ∧ S.M.U f ≤ 256 := by
  obtain ⟨a, b, c, d⟩ := hf.used h.ok
  obtain ⟨L, l1, l2, l3⟩ := h.gl
  have hc := h.c4
  have hU := h.ok.hU f a c d
  have hsub : H f ⊆ (List.range 64).flatMap fun p => L.map fun g => (g, p) := by
    rintro ⟨g, p⟩ hm
    obtain ⟨hp, r, hg, _, _⟩ := (h.ok.hIn _ _ _).1 hm
    rw [List.mem_flatMap]
    exact ⟨p, by simpa using hp, List.mem_map.2 ⟨g, (l2 g).2 (by rw [hg]; rfl), rfl⟩⟩
  have hlen := (h.ok.hNd f).length_le_of_subset hsub
  rw [pairs_length, l3] at hlen
  omega

/-- Share has given a page a second place. -/
theorem Inv.joined {S : MS} {H : Hs} (h : Inv S H) {g : Int} {r p f : Nat} {b : Bool} {M' : Mm} (ha : pres (S.M.ent r p) = false)
    (hJ : Joined S.M M' S.G H g r p f b) : Inv (S.withM M') (addH H f (g, p)) := by
  refine ⟨hJ.ok, hJ.full, h.gpos, ?_, h.gl, h.c4, h.rt⟩
  intro g' p' x hx
  obtain ⟨r', a1, a2, a3, a4, a5⟩ := h.coh hx
  refine ⟨r', a1, a2, a3, ?_, a5⟩
  rw [a4] at a5 ⊢
  refine (hJ.oth.en g' r' p'.toNat a1 (by omega) (fun e => ?_) a5).symm
  rw [e.1, e.2, ha] at a5
  cases a5

def need1 (M : Mm) (r p : Nat) : Nat := if pres (M.tbl r p) then 0 else 1

/-- Enter, of a frame that is held once more. -/
theorem enterJoined {S : MS} {H : Hs} (hI : Inv S H) {w : World} {g q : Int} {r f : Nat} (b : Bool) (hG : S.G g = some r) (h0 : 0 ≤ q) (h1 : q < 64) (ha : pres (S.M.ent r q.toNat) = false) (hf : IsPage S.M S.G f) (hfr : need1 S.M r q.toNat ≤ S.M.free) (hM : Mem w S.mp S.fb (S.M.hold f)) :
    Calls Tryz.prog 58 #[sp S.mp r, .int .i64 q, .int .i64 f, .bool b] w fun e w' => ∃ M', e = .returned (.tuple #[]) ∧ Mem w' S.mp S.fb M' ∧ Only (One S.fb) w w' ∧ Joined S.M M' S.G H g r q.toNat f b ∧ M'.free + need1 S.M r q.toNat = S.M.free := by
  obtain ⟨u1, u2, u3, u4⟩ := hf.used hI.ok
  have hle := hI.ok.le
  have hr := (hI.ok.rootN hG).1
  cases hx : pres (S.M.tbl r q.toNat) with
  | true =>
    obtain ⟨j1, j2⟩ := joined_had hI.ok hI.full b hG (p := q.toNat) (by omega) ha hx hf
    have htn := (hI.ok.tabN hG (k := q.toNat / 8) (by omega) hx).1
    refine (enterHad_any (mp := S.mp) (fb := S.fb) (M := S.M.hold f) w r q f b hM h0 h1 hr (by omega) hx htn).mono ?_
    rintro e w' ⟨rfl, hM', o⟩
    exact ⟨_, rfl, hM', o, j1, by rw [need1, if_pos hx]; exact j2⟩
  | false =>
    rw [need1, if_neg (by rw [hx]; simp)] at hfr ⊢
    obtain ⟨t, ht⟩ := Mm.first_some (M := S.M.hold f) (by rw [hold_free u1 u2]; omega)
    obtain ⟨j1, j2⟩ := joined_new hI.ok hI.full b hG (p := q.toNat) (by omega) hx hf ht
    refine (enterNew_any (mp := S.mp) (fb := S.fb) (M := S.M.hold f) w r q f t b hM h0 h1 hr (by omega) hx ht).mono ?_
    rintro e w' ⟨rfl, hM', o⟩
    exact ⟨_, rfl, hM', o, j1, j2⟩

set_option maxHeartbeats 400000 in
theorem shareNone_any (w : World) (mb : Nat) (S : MS) (h : Mach w mb S) (f p t q : Int) (b : Bool) (ht : In64 t) (hT : S.G t = none) :
    Calls Tryz.prog 31 #[pt mb, .int .i64 f, .int .i64 p, .int .i64 t, .int .i64 q, .bool b] w fun e w' => e = .returned (.int .i64 4) ∧ Only Nob w w' := by
  have hc := h.c1
  have hrun := h.gst.look_ok (i := t) law3 Tryz.underlying64 (zero77 w) (key3 ht)
  simp only [MS.gst, hT, Option.map_none, Option.getD_none, Option.isSome_none] at hrun
  go_enter Tryz.func31, Tryz.ntmps31
  go_wp2
  go_ret
  exact ⟨rfl, (Only.refl _ _).alloc _⟩

set_option maxHeartbeats 400000 in
theorem shareCheck_any (w : World) (mb : Nat) (S : MS) (h : Mach w mb S) (f p t q : Int) (b : Bool) (rt : Nat) (hf : In64 f) (ht : In64 t) (hT : S.G t = some rt) (hb : checkE S f (isPg p && isPg q) ≠ 0) :
    Calls Tryz.prog 31 #[pt mb, .int .i64 f, .int .i64 p, .int .i64 t, .int .i64 q, .bool b] w fun e w' => e = .returned (.int .i64 (checkE S f (isPg p && isPg q))) ∧ Only Nob w w' := by
  have hc := h.c1
  have hrun := h.gst.look_ok (i := t) law3 Tryz.underlying64 (zero77 w) (key3 ht)
  simp only [MS.gst, hT, Option.map_some, Option.getD_some, Option.isSome_some] at hrun
  have o1 : Only Nob w (w.alloc (.cells #[pt S.mp, .int .i64 rt, .int .i64 (S.Rt t)] 95)) := (Only.refl _ _).alloc _
  have h1 := h.nob o1
  cases hp : isPg p with
  | false =>
    rw [hp, Bool.false_and] at hb
    have hb' : (checkE S f false != 0) = true := by simp [hb]
    clear hb
    go_enter Tryz.func31, Tryz.ntmps31
    go_wp2_with fail
    refine (isPage_any _ p).mono ?_
    rintro e w1 ⟨rfl, rfl⟩
    rw [hp]
    go_wp2_with fail
    refine (check_any _ mb S h1 f hf _).mono ?_
    rintro e w1 ⟨rfl, ho⟩
    go_wp2_with fail
    go_ret
    exact ⟨rfl, o1.trans ho⟩
  | true =>
    rw [hp, Bool.true_and] at hb
    have hb' : (checkE S f (isPg q) != 0) = true := by simp [hb]
    clear hb
    go_enter Tryz.func31, Tryz.ntmps31
    go_wp2_with fail
    refine (isPage_any _ p).mono ?_
    rintro e w1 ⟨rfl, rfl⟩
    rw [hp]
    go_wp2_with fail
    refine (isPage_any _ q).mono ?_
    rintro e w1 ⟨rfl, rfl⟩
    go_wp2_with fail
    refine (check_any _ mb S h1 f hf _).mono ?_
    rintro e w1 ⟨rfl, ho⟩
    go_wp2_with fail
    go_ret
    exact ⟨rfl, o1.trans ho⟩

theorem missing1 {mp fb : Nat} {M : Mm} (w : World) (r : Nat) (p : Int) (hM : Mem w mp fb M) (hr : r < M.n) (h0 : 0 ≤ p) (h1 : p < 64) :
    Calls Tryz.prog 57 #[sp mp r, .int .i64 p] w fun e w' => e = .returned (.int .i64 (need1 M r p.toNat : Nat)) ∧ Only Nob w w' := by
  refine (missing_any w r p hM hr h0 h1).mono ?_
  rintro e w' ⟨rfl, ho⟩
  refine ⟨ret_int ?_, ho⟩
  rw [need1]
  split <;> rfl

theorem After.turnM {w0 w w' : World} {mb n : Nat} {S : MS} {H : Hs} {M' : Mm} (h : After w0 w mb S H n) (hM : Mem w' S.mp S.fb M') (o : Only (One S.fb) w w') : AfterM w0 w' mb S H n M' := by
  obtain ⟨kb, kn, K, h⟩ := h
  exact ⟨kb, kn, K, h.m.turnM hM o, h.i, h.kn, h.kb, h.o.after o (fun b _ q => Or.inr (Or.inr (Or.inl q)))⟩

/-- What Share answers where both guests are, and both pages are pages. -/
def shareE (M : Mm) (rf p rt q : Nat) (b : Bool) : Int :=
  if pres (M.ent rf p) then (if b && !wrib (M.ent rf p) then 8 else if pres (M.ent rt q) then 6 else if M.free < need1 M rt q then 3 else 0) else 7

/-- A guest's row, laid ahead of the walks. -/
theorem After.laid3 {w w1 w2 : World} {mb n r : Nat} {S : MS} {H : Hs} {x : Int} (hM : Mach w mb S) (o : Only Nob (w.alloc (.cells #[pt S.mp, .int .i64 r, .int .i64 x] 95)) w1) (h : After w1 w2 mb S H n) :
    w2.cell? ⟨w.heap.size, 0, none⟩ = some (pt S.mp) ∧ w2.cell? ⟨w.heap.size, 1, none⟩ = some (.int .i64 r) := by
  have hno : ¬ S.own mb w.heap.size := fun q => by have := hM.own_lt q; omega
  have r0 := World.rowIs_alloc w #[pt S.mp, .int .i64 r, .int .i64 x] 95 (fun i => if i = 0 then pt S.mp else if i = 1 then .int .i64 r else .int .i64 x) (fun i hi => by
    have hi : i < 3 := hi
    have e : i = 0 ∨ i = 1 ∨ i = 2 := by omega
    rcases e with e | e | e <;> subst e <;> rfl)
  have r1 := h.o.row (o.row r0 (fun q => q)) hno
  exact ⟨r1.cell (by show 0 < 3; omega), r1.cell (by show 1 < 3; omega)⟩

set_option maxRecDepth 100000 in
set_option maxHeartbeats 2000000 in
theorem shareGood_any (w : World) (mb : Nat) (S : MS) (H : Hs) (hM : Mach w mb S) (hI : Inv S H) (f p t q : Int) (b : Bool) (rf rt : Nat) (hf : In64 f) (ht : In64 t) (hF : S.G f = some rf) (hT : S.G t = some rt) (hp0 : 0 ≤ p) (hp1 : p < 64) (hq0 : 0 ≤ q) (hq1 : q < 64) (hk : S.kn + 2 < maxLen) :
    Calls Tryz.prog 31 #[pt mb, .int .i64 f, .int .i64 p, .int .i64 t, .int .i64 q, .bool b] w fun e w' => e = .returned (.int .i64 (shareE S.M rf p.toNat rt q.toNat b)) ∧
      (shareE S.M rf p.toNat rt q.toNat b ≠ 0 → After w w' mb S H 2) ∧
      (shareE S.M rf p.toNat rt q.toNat b = 0 → ∃ M', AfterM w w' mb S H 2 M' ∧ Joined S.M M' S.G H t rt q.toNat (numb (S.M.ent rf p.toNat)) b ∧ M'.free + need1 S.M rt q.toNat = S.M.free) := by
  have hc := hM.c1
  have hrun := hM.gst.look_ok (i := t) law3 Tryz.underlying64 (zero77 w) (key3 ht)
  simp only [MS.gst, hT, Option.map_some, Option.getD_some, Option.isSome_some] at hrun
  have o1 : Only Nob w (w.alloc (.cells #[pt S.mp, .int .i64 rt, .int .i64 (S.Rt t)] 95)) := (Only.refl _ _).alloc _
  have h1 := hM.nob o1
  have hpp : isPg p = true := by simp [isPg, hp0, hp1]
  have hqq : isPg q = true := by simp [isPg, hq0, hq1]
  have HC := hid (show checkE S f true = 0 by simp [checkE, hF])
  have HM := hid hM
  have HI := hid hI
  have HK := hid hk
  have HF := hid hF
  have HT := hid hT
  clear hM hI hk hF hT
  go_enter Tryz.func31, Tryz.ntmps31
  go_wp2_with fail
  refine (isPage_any _ p).mono ?_
  rintro e w1 ⟨rfl, rfl⟩
  rw [hpp]
  go_wp2_with fail
  refine (isPage_any _ q).mono ?_
  rintro e w1 ⟨rfl, rfl⟩
  rw [hqq]
  go_wp2_with fail
  refine (check_any _ mb S h1 f hf _).mono ?_
  rintro e w1 ⟨rfl, ho⟩
  rw [HC.out]
  have hA1 := After.start (h1.nob ho) HI.out
  clear hrun hc h1
  go_wp2_with fail
  refine (hA1.walk hf HF.out hp0 hp1 (by have := HK.out; omega)).mono ?_
  rintro e w2 ⟨rfl, hA2⟩
  have hb := ent_bd hA2.mem rf p.toNat
  have HO := hid (o1.trans ho)
  clear o1 hA1
  cases hx : pres (S.M.ent rf p.toNat) with
  | false =>
    have HE : Hid (shareE S.M rf p.toNat rt q.toNat b = 7) := by simp [Hid, shareE, hx]
    have hA3 := (hA2.mono (m := 2) (by omega)).rebase HO.out
    go_wp2_with (go_at_call 56; refine (present_any _ _ hb.1 hb.2).mono ?_; rintro e w' ⟨rfl, rfl⟩)
    go_ret
    rw [HE.out]
    exact ⟨rfl, fun _ => hA3, fun q => by omega⟩
  | true =>
    cases hbw : (b && !wrib (S.M.ent rf p.toNat)) with
    | true =>
      have HE : Hid (shareE S.M rf p.toNat rt q.toNat b = 8) := by simp only [Hid, shareE]; rw [if_pos hx, if_pos hbw]
      have hA3 := (hA2.mono (m := 2) (by omega)).rebase HO.out
      have hbt : b = true := by cases b <;> simp_all
      subst hbt
      have hwf : wrib (S.M.ent rf p.toNat) = false := by simpa using hbw
      clear hbw
      go_wp2_with (first | (go_at_call 56; refine (present_any _ _ hb.1 hb.2).mono ?_; rintro e w' ⟨rfl, rfl⟩) | (go_at_call 65; refine (writable_any _ _ hb.1 hb.2).mono ?_; rintro e w' ⟨rfl, rfl⟩))
      go_ret
      rw [HE.out]
      exact ⟨rfl, fun _ => hA3, fun q => by omega⟩
    | false =>
      go_upto_region 10 with (go_at_call 56; refine (present_any _ _ hb.1 hb.2).mono ?_; rintro e w' ⟨rfl, rfl⟩)
      go_cut [52] (fun s wx => s = .bool false ∧ wx = w2)
      case first =>
        cases b with
        | false =>
          go_wp2_with fail
          go_meet
          case rel => exact ⟨rfl, rfl⟩
        | true =>
          have hwt : wrib (S.M.ent rf p.toNat) = true := by simpa using hbw
          go_wp2_with (go_at_call 65; refine (writable_any _ _ hb.1 hb.2).mono ?_; rintro e w' ⟨rfl, rfl⟩)
          go_meet
          case rel => exact ⟨rfl, rfl⟩
      case rest =>
        obtain ⟨rfl, rfl⟩ := hcut
        go_wp2_with fail
        refine (hA2.walk ht HT.out hq0 hq1 (by have := HK.out; omega)).mono ?_
        rintro e w3 ⟨rfl, hA3⟩
        have hb3 := ent_bd hA3.mem rt q.toNat
        obtain ⟨b0, b1⟩ := hA3.laid3 HM.out ho
        cases hy : pres (S.M.ent rt q.toNat) with
        | true =>
          have HE : Hid (shareE S.M rf p.toNat rt q.toNat b = 6) := by simp only [Hid, shareE]; rw [if_pos hx, if_neg (by rw [hbw]; simp), if_pos hy]
          have hA4 := hA3.rebase HO.out
          go_wp2_with (go_at_call 56; refine (present_any _ _ hb3.1 hb3.2).mono ?_; rintro e w' ⟨rfl, rfl⟩)
          go_ret
          rw [HE.out]
          exact ⟨rfl, fun _ => hA4, fun q => by omega⟩
        | false =>
          have hm3 := hA3.mem.drew
          have c3 := hA3.c0
          have hroot := (HI.out.ok.rootN HT.out).1
          have HSE : Hid (shareE S.M rf p.toNat rt q.toNat b = if S.M.free < need1 S.M rt q.toNat then 3 else 0) := by simp only [Hid, shareE]; rw [if_pos hx, if_neg (by rw [hbw]; simp), if_neg (by rw [hy]; simp)]
          have hfl := freeTo_le S.M.U S.M.n
          change S.M.free ≤ S.M.n at hfl
          have hle := hA3.mem.le
          have HB := hid hbw
          clear hbw hA2
          go_upto_region 14 with (go_at_call 56; refine (present_any _ _ hb3.1 hb3.2).mono ?_; rintro e w' ⟨rfl, rfl⟩)
          go_cut [67] (fun s wx => s = .bool (decide (S.M.free < need1 S.M rt q.toNat)) ∧ After w1 wx mb S H 2)
          case first =>
            go_region_with (first
              | (go_at_call 46; refine (memFree_any (mp := S.mp) (fb := S.fb) (M := S.M) _ ?_).mono ?_; (first | exact hm3 | exact hm4); rintro e w' ⟨rfl, rfl⟩)
              | (go_at_call 57; refine (missing1 (mp := S.mp) (fb := S.fb) (M := S.M) _ rt q hm3 hroot hq0 hq1).mono ?_; rintro e w4 ⟨rfl, ho4⟩; have h4 := hA3.nob (((Only.refl Nob w3).drew).trans ho4); have hm4 := h4.mem; have c4 := h4.c0))
            all_goals
              go_wp2_with fail
              go_meet
              case rel => exact ⟨by simp, h4⟩
          case rest =>
            obtain ⟨rfl, hA4⟩ := hcut
            clear hA3 hm3 c3 b0 b1
            by_cases hlt : S.M.free < need1 S.M rt q.toNat
            · have HE := HSE.out
              rw [if_pos hlt] at HE
              have HE := hid HE
              have hd : decide (S.M.free < need1 S.M rt q.toNat) = true := by simp [hlt]
              rw [hd]
              go_wp2
              go_ret
              rw [HE.out]
              exact ⟨rfl, fun _ => hA4.rebase HO.out, fun q => by omega⟩
            · have HE := HSE.out
              rw [if_neg hlt] at HE
              have HE := hid HE
              have hd : decide (S.M.free < need1 S.M rt q.toNat) = false := by simp [hlt]
              rw [hd]
              have hpg : IsPage S.M S.G (numb (S.M.ent rf p.toNat)) := ⟨f, rf, p.toNat, HF.out, by omega, hx, rfl⟩
              obtain ⟨u1, u2, _, _⟩ := hpg.used HI.out.ok
              have hus := HI.out.users hpg
              obtain ⟨b0, b1⟩ := hA4.laid3 HM.out ho
              have hm4 := hA4.mem.drew
              have c4 := hA4.c0
              have hfb := HM.out.mem.row_lt
              have hA5 := hA4.nob (Only.refl Nob _).drew
              have HP := hid hpg
              have HLT := hid hlt
              clear hd hpg hlt HSE
              go_upto_region 16 with fail
              go_cut [] (fun wx => Mem wx S.mp S.fb (S.M.hold (numb (S.M.ent rf p.toNat))) ∧ Only (One S.fb) wc.drew wx)
              case first =>
                go_region_with (first
                  | (go_at_call 68; refine (number_any _ _ hb.1 hb.2).mono ?_; rintro e w' ⟨rfl, rfl⟩)
                  | (go_at_call 67; refine (hold_any (mp := S.mp) (fb := S.fb) (M := S.M) _ _ hm4 (by omega) (by omega) (by rw [Int.toNat_natCast]; omega) (by rw [Int.toNat_natCast]; omega)).mono ?_; rintro e w5 ⟨rfl, hM5, ho5⟩; rw [Int.toNat_natCast] at hM5))
                all_goals
                  go_wp2_with fail
                  go_meet
                  case rel => exact ⟨hM5, ho5⟩
              case rest =>
                rename_i w5
                obtain ⟨hM5, ho5⟩ := hcut
                have a0 := ho5.keep (p := ⟨w.heap.size, 0, none⟩) (fun h => by simp [One] at h; omega) b0
                have a1 := ho5.keep (p := ⟨w.heap.size, 1, none⟩) (fun h => by simp [One] at h; omega) b1
                go_wp2_with fail
                go_region_with (first
                  | (go_at_call 68; refine (number_any _ _ hb.1 hb.2).mono ?_; rintro e w' ⟨rfl, rfl⟩)
                  | (go_at_call 58; refine (enterJoined HI.out b HT.out hq0 hq1 hy HP.out (by have := HLT.out; omega) hM5.drew).mono ?_; rintro e w6 ⟨M', rfl, hM6, ho6, hJ, hfr⟩))
                all_goals
                  go_wp2
                  go_ret
                  rw [HE.out]
                  exact ⟨rfl, fun q => absurd rfl q, fun _ => ⟨M', (hA5.turnM hM6 ((ho5.drew).trans ho6)).rebase HO.out, hJ, hfr⟩⟩
end Go.Proofs.YtfcepnhknmbaaaaGreat
