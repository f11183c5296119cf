/- The contracts of package tables, more: groupEmpty, Remove, End, Enter, NewSpace; and memory's New. -/
import Derived.Test.YtfcepnhknmbaaaaTabWalks
import Derived.Deep.DeepCutAuto
namespace Go.Proofs.Ytfcepnhknmbaaaa
open Go.RowKit Go.Deep

/-- No entry of a table from k on is present, f of them. -/
def nonePres (M : Mm) (t : Nat) : Nat → Nat → Bool
  | _, 0 => true
  | k, f + 1 => !(pres (M.W t k)) && nonePres M t (k + 1) f
def Mm.empty (M : Mm) (t : Nat) : Bool := nonePres M t 0 8

set_option maxHeartbeats 400000 in
theorem groupEmpty_any {mp fb : Nat} {M : Mm} (w : World) (r : Nat) (p : Int) (hM : Mem w mp fb M) (hr : r < M.n) (h0 : 0 ≤ p) (h1 : p < 64)
  (hn : numb (M.tbl r p.toNat) < M.n) :
    Calls Try.prog 62 #[sp mp r, .int .i64 p] w fun e w' => e = .returned (.bool (M.empty (numb (M.tbl r p.toNat)))) ∧ Only Nob w w' := by
  have hle := hM.le
  have hb : 0 ≤ M.tbl r p.toNat ∧ M.tbl r p.toNat ≤ 65535 := hM.wb r (p.toNat / 8)
  go_enter Try.func62, Try.ntmps62
  go_wp2_with fail
  refine (table_any (mp := mp) (fb := fb) (M := M) _ r p (hM.alloc _) hr h0 h1).mono ?_
  rintro e w1 ⟨rfl, ho⟩
  have hc0 := ho.laid (fun h => h) 0
  obtain ⟨hM1, hO1⟩ := hM.behind ho
  go_wp2_with (go_at_call 50; refine (number_any _ _ hb.1 hb.2).mono ?_; rintro e w' ⟨rfl, rfl⟩)
  go_loop [11] (fun c => ∃ k : Nat, k ≤ 8 ∧ c = .int .i64 k ∧ nonePres M (numb (M.tbl r p.toNat)) k (8 - k) = M.empty (numb (M.tbl r p.toNat))) (fun c => 8 - (intOf c).toNat)
  case atStart => exact ⟨0, Nat.zero_le _, rfl, rfl⟩
  case round =>
    obtain ⟨k, hk, rfl, he⟩ := hrel
    by_cases hlt : k < 8
    · rw [show 8 - k = (8 - (k + 1)) + 1 by omega] at he
      simp only [nonePres] at he
      have hb2 := hM1.wb (numb (M.tbl r p.toNat)) k
      cases hx : pres (M.W (numb (M.tbl r p.toNat)) k)
      · rw [hx, Bool.not_false, Bool.true_and] at he
        have HE := hid he
        clear he
        go_wp2_with (first | (go_at_call 67; refine (word_any (mp := mp) (fb := fb) (M := M) _ _ _ hM1 (by omega) (by omega) (by omega) (by omega)).mono ?_; rintro e w' ⟨rfl, rfl⟩; rw [Int.toNat_natCast, Int.toNat_natCast]) | (go_at_call 34; refine (present_any _ _ hb2.1 hb2.2).mono ?_; rintro e w' ⟨rfl, rfl⟩))
        go_round
        case rel => exact ⟨k + 1, by omega, by go_num, HE.out⟩
        case measure => simp [intOf]; omega
      · rw [hx, Bool.not_true, Bool.false_and] at he
        have HE := hid he
        clear he
        go_wp2_with (first | (go_at_call 67; refine (word_any (mp := mp) (fb := fb) (M := M) _ _ _ hM1 (by omega) (by omega) (by omega) (by omega)).mono ?_; rintro e w' ⟨rfl, rfl⟩; rw [Int.toNat_natCast, Int.toNat_natCast]) | (go_at_call 34; refine (present_any _ _ hb2.1 hb2.2).mono ?_; rintro e w' ⟨rfl, rfl⟩))
        go_ret
        exact ⟨by rw [← HE.out]; rfl, hO1⟩
    · have e8 : k = 8 := by omega
      subst e8
      have HE := hid he
      clear he
      go_wp2
      go_ret
      exact ⟨by rw [← HE.out]; rfl, hO1⟩

/-- What Remove leaves of the frames. -/
def Mm.unuse (M : Mm) (f : Nat) : Mm := M.setU f (M.U f - 1)
def Mm.removed (M : Mm) (r p : Nat) : Mm := (M.unuse (numb (M.ent r p))).setW (numb (M.tbl r p)) (p % 8) 0
def Mm.remove (M : Mm) (r p : Nat) : Mm :=
  if pres (M.ent r p) then
    if (M.removed r p).empty (numb (M.tbl r p)) then ((M.removed r p).unuse (numb (M.tbl r p))).setW r (p / 8) 0
    else M.removed r p
  else M

/-- What a walk through a space's tables asks of the frames. -/
structure Sound (M : Mm) (r p : Nat) : Prop where
  root : r < M.n
  tab : pres (M.tbl r p) = true → numb (M.tbl r p) < M.n ∧ numb (M.tbl r p) ≠ r ∧ 1 ≤ M.U (numb (M.tbl r p))
  page : pres (M.ent r p) = true → numb (M.ent r p) < M.n ∧ 1 ≤ M.U (numb (M.ent r p)) ∧ numb (M.ent r p) ≠ numb (M.tbl r p)

theorem pres_tbl {M : Mm} {r p : Nat} (h : pres (M.ent r p) = true) : pres (M.tbl r p) = true := by
  cases hx : pres (M.tbl r p) with
  | true => rfl
  | false => simp [Mm.ent, hx] at h

theorem ent_bd {w : World} {mp fb : Nat} {M : Mm} (h : Mem w mp fb M) (r p : Nat) : 0 ≤ M.ent r p ∧ M.ent r p ≤ 65535 := by
  simp only [Mm.ent]
  split
  · exact h.wb _ _
  · exact h.wb _ _

theorem removed_tbl {M : Mm} {r p : Nat} (h : numb (M.tbl r p) ≠ r) : (M.removed r p).tbl r p = M.tbl r p := by
  simp only [Mm.removed, Mm.tbl, Mm.unuse, Mm.setW, Mm.setU, upd2]
  rw [if_neg (fun e => h e.1.symm)]

set_option maxHeartbeats 1000000 in
theorem remove_any {mp fb : Nat} {M : Mm} (w : World) (r : Nat) (p : Int) (hM : Mem w mp fb M) (h0 : 0 ≤ p) (h1 : p < 64) (hS : Sound M r p.toNat) :
    Calls Try.prog 35 #[sp mp r, .int .i64 p] w fun e w' => e = .returned (.tuple #[]) ∧ Mem w' mp fb (M.remove r p.toNat) ∧ Only (One fb) w w' := by
  have hle := hM.le
  have hlt := hM.row_lt
  have hr := hS.root
  have hb := ent_bd hM r p.toNat
  have htn := fun h => (hS.tab h).1
  cases hx : pres (M.ent r p.toNat)
  · have HE := hid (show M.remove r p.toNat = M by simp [Mm.remove, hx])
    go_enter Try.func35, Try.ntmps35
    go_wp2_with fail
    refine (walk_any (mp := mp) (fb := fb) (M := M) _ r p (hM.alloc _) hr h0 h1 htn).mono ?_
    rintro e w1 ⟨rfl, ho⟩
    obtain ⟨hM1, hO1⟩ := hM.behind ho
    go_wp2_with (go_at_call 34; refine (present_any _ _ hb.1 hb.2).mono ?_; rintro e w' ⟨rfl, rfl⟩)
    refine bodyPost_ret (results_none rfl _ _ _) rfl ?_
    rw [HE.out]
    exact ⟨rfl, hM1, hO1.of_nob⟩
  · obtain ⟨hp1, hp2, hp3⟩ := hS.page hx
    obtain ⟨ht1, ht2, ht3⟩ := hS.tab (pres_tbl hx)
    have HE := hid (show M.remove r p.toNat = if (M.removed r p.toNat).empty (numb (M.tbl r p.toNat)) then ((M.removed r p.toNat).unuse (numb (M.tbl r p.toNat))).setW r (p.toNat / 8) 0 else M.removed r p.toNat by simp [Mm.remove, hx])
    have HT := hid (removed_tbl (M := M) (p := p.toNat) ht2)
    have hu2 : 1 ≤ (M.removed r p.toNat).U (numb (M.tbl r p.toNat)) := by
      simp only [Mm.removed, Mm.unuse, Mm.setW, Mm.setU, upd]
      rw [if_neg (fun e => hp3 e.symm)]; exact ht3
    clear htn
    go_enter Try.func35, Try.ntmps35
    go_wp2_with fail
    refine (walk_any (mp := mp) (fb := fb) (M := M) _ r p (hM.alloc _) hr h0 h1 (fun _ => ht1)).mono ?_
    rintro e w1 ⟨rfl, ho⟩
    have hc0 := ho.laid (fun h => h) 0
    have hc1 := ho.laid (fun h => h) 1
    obtain ⟨hM1, hO1⟩ := hM.behind ho
    have hsz : w.heap.size < w1.heap.size := by have := ho.size; simp at this; omega
    clear ho
    go_wp2_with (go_at_call 34; refine (present_any _ _ hb.1 hb.2).mono ?_; rintro e w' ⟨rfl, rfl⟩)
    go_cut [] (fun wx => Mem wx mp fb (M.unuse (numb (M.ent r p.toNat))) ∧ Only (One fb) w wx ∧ wx.cell? ⟨w.heap.size, 0, none⟩ = some (pt mp) ∧ wx.cell? ⟨w.heap.size, 1, none⟩ = some (.int .i64 r))
    case first =>
      go_region_with (first
        | (go_at_call 50; refine (number_any _ _ hb.1 hb.2).mono ?_; rintro e w' ⟨rfl, rfl⟩)
        | (go_at_call 60; refine (release_any (mp := mp) (fb := fb) (M := M) _ _ hM1.drew (by omega) (by omega) (by simpa using hp2)).mono ?_; rintro e w2 ⟨rfl, hM2, ho2⟩))
      all_goals
        go_wp2_with fail
        go_meet
        case rel =>
          rw [Int.toNat_natCast] at hM2
          exact ⟨hM2, (hO1.of_nob (S := One fb)).drew.trans ho2, ho2.keep (fun h => by simp [One] at h; omega) hc0, ho2.keep (fun h => by simp [One] at h; omega) hc1⟩
    case rest =>
      obtain ⟨hMc, hOc, hc0c, hc1c⟩ := hcut
      have hszc : w.heap.size < wc.heap.size := World.block_lt_of_cell? _ _ hc0c
      clear hc0 hc1 hM1 hO1 hsz
      go_wp2_with fail
      refine (setEntry_any (mp := mp) (fb := fb) (M := M.unuse (numb (M.ent r p.toNat))) _ r p 0 hMc hr h0 h1 (by omega) (by omega) ht1).mono ?_
      rintro e w3 ⟨rfl, hM3, ho3⟩
      change Mem w3 mp fb (M.removed r p.toNat) at hM3
      have hd0 := ho3.keep (fun h => by simp [One] at h; omega) hc0c
      have hd1 := ho3.keep (fun h => by simp [One] at h; omega) hc1c
      have hO3 := hOc.trans ho3
      clear hMc hOc hc0c hc1c ho3
      go_wp2_with fail
      refine (groupEmpty_any (mp := mp) (fb := fb) (M := M.removed r p.toNat) _ r p hM3 hr h0 h1 (by rw [HT.out]; exact ht1)).mono ?_
      rintro e w4 ⟨rfl, ho4⟩
      rw [HT.out]
      have he0 := ho4.keep (fun h => h) hd0
      have he1 := ho4.keep (fun h => h) hd1
      have hM4 := hM3.nob ho4
      have hO4 := hO3.trans (ho4.of_nob (S := One fb))
      clear hM3 hO3 hd0 hd1 ho4
      cases hem : (M.removed r p.toNat).empty (numb (M.tbl r p.toNat))
      · have HF := hid (show M.remove r p.toNat = M.removed r p.toNat by rw [HE.out, hem]; rfl)
        clear HE
        go_wp2_with fail
        go_end0
        rw [HF.out]
        exact ⟨rfl, hM4, hO4⟩
      · have HF := hid (show M.remove r p.toNat = ((M.removed r p.toNat).unuse (numb (M.tbl r p.toNat))).setW r (p.toNat / 8) 0 by rw [HE.out, hem]; rfl)
        clear HE
        have hbt : 0 ≤ M.tbl r p.toNat ∧ M.tbl r p.toNat ≤ 65535 := hM.wb r (p.toNat / 8)
        go_wp2_with fail
        go_cut [] (fun wx => Mem wx mp fb ((M.removed r p.toNat).unuse (numb (M.tbl r p.toNat))) ∧ Only (One fb) w wx ∧ wx.cell? ⟨w.heap.size, 0, none⟩ = some (pt mp) ∧ wx.cell? ⟨w.heap.size, 1, none⟩ = some (.int .i64 r))
        case first =>
          go_region_with (first
            | (go_at_call 63; refine (table_any (mp := mp) (fb := fb) (M := M.removed r p.toNat) _ r p hM4.drew hr h0 h1).mono ?_; rintro e w5 ⟨rfl, ho5⟩; rw [HT.out]; have hf0 := ho5.keep (fun h => h) he0; have hf1 := ho5.keep (fun h => h) he1; have hM5 := hM4.drew.nob ho5)
            | (go_at_call 50; refine (number_any _ _ hbt.1 hbt.2).mono ?_; rintro e w' ⟨rfl, rfl⟩)
            | (go_at_call 60; refine (release_any (mp := mp) (fb := fb) (M := M.removed r p.toNat) _ _ hM5 (by omega) (by show ((numb (M.tbl r p.toNat) : Nat) : Int) < (M.n : Int); omega) (by simpa using hu2)).mono ?_; rintro e w6 ⟨rfl, hM6, ho6⟩))
          all_goals
            go_wp2_with fail
            go_meet
            case rel =>
              rw [Int.toNat_natCast] at hM6
              exact ⟨hM6, (hO4.drew.trans (ho5.of_nob (S := One fb))).trans ho6, ho6.keep (fun h => by simp [One] at h; omega) hf0, ho6.keep (fun h => by simp [One] at h; omega) hf1⟩
        case rest =>
          obtain ⟨hMc, hOc, hc0c, hc1c⟩ := hcut
          clear he0 he1 hM4 hO4
          go_wp2_with fail
          refine (setTable_any (mp := mp) (fb := fb) (M := (M.removed r p.toNat).unuse (numb (M.tbl r p.toNat))) _ r p 0 hMc hr h0 h1 (by omega) (by omega)).mono ?_
          rintro e w7 ⟨rfl, hM7, ho7⟩
          go_wp2_with fail
          go_end0
          rw [HF.out]
          exact ⟨rfl, hM7, hOc.trans ho7⟩
end Go.Proofs.Ytfcepnhknmbaaaa
