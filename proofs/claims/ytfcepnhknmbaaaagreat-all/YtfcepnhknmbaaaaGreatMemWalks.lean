/- The contracts of package memory: Word, SetWord, Release, Free, Take: what each answers and what becomes of the frames. -/
import Derived.Test.YtfcepnhknmbaaaaGreatProg
import Derived.Test.YtfcepnhknmbaaaaGreatBase
namespace Go.Proofs.YtfcepnhknmbaaaaGreat
open Go.RowKit Go.Deep

theorem ret_int {k : IntKind} {a b : Int} (h : a = b) : Ending.returned (.int k a) = .returned (.int k b) := by rw [h]

/-- A callee that only computes, within a region that draws. -/
theorem quiet_same {P : Program} {f : FuncId} {args : Array Value} {w : World} {n : Nat} {v : Value}
    (h : Calls P f args (w.drewN n) fun e w' => e = .returned v ∧ w.drewN n = w') : Calls P f args (w.drewN n) fun e w'' => e = .returned v ∧ ∃ m, w'' = w.drewN m :=
  h.mono fun _ _ ⟨he, hm⟩ => ⟨he, n, hm.symm⟩

abbrev pt (b : Nat) : Value := .pointer (some ⟨b, 0, none⟩)

set_option maxHeartbeats 400000 in
theorem word_any {mp fb : Nat} {M : Mm} (w : World) (x k : Int) (hM : Mem w mp fb M)
  (h0 : 0 ≤ x) (h1 : x < M.n) (h2 : 0 ≤ k) (h3 : k < 8) :
    Calls Tryz.prog 89 #[pt mp, .int .i64 x, .int .i64 k] w fun e w' => e = .returned (.int .u16 (M.W x.toNat k.toNat)) ∧ w = w' := by
  have hs := hM.slice
  have hle := hM.le
  have hw := hM.word (i := x.toNat) (k := k.toNat) (by omega) (by omega)
  go_enter Tryz.func89, Tryz.ntmps89
  go_wp2
  go_ret
  exact ⟨rfl, rfl⟩

set_option maxHeartbeats 400000 in
theorem setWord_any {mp fb : Nat} {M : Mm} (w : World) (x k v : Int) (hM : Mem w mp fb M)
  (h0 : 0 ≤ x) (h1 : x < M.n) (h2 : 0 ≤ k) (h3 : k < 8) (h4 : 0 ≤ v) (h5 : v ≤ 65535) :
    Calls Tryz.prog 90 #[pt mp, .int .i64 x, .int .i64 k, .int .u16 v] w fun e w' => e = .returned (.tuple #[]) ∧ Mem w' mp fb (M.setW x.toNat k.toNat v) ∧ Only (One fb) w w' := by
  have hs := hM.slice
  have hle := hM.le
  have hw := hM.word (i := x.toNat) (k := k.toNat) (by omega) (by omega)
  have hf := hM.froz (x.toNat * 9 + k.toNat)
  go_enter Tryz.func90, Tryz.ntmps90
  go_wp2
  go_end0
  exact ⟨rfl, hM.setW (by omega) ⟨h4, h5⟩, (Only.refl _ _).setOne _ _⟩

set_option maxHeartbeats 400000 in
theorem release_any {mp fb : Nat} {M : Mm} (w : World) (x : Int) (hM : Mem w mp fb M)
  (h0 : 0 ≤ x) (h1 : x < M.n) (h2 : 1 ≤ M.U x.toNat) :
    Calls Tryz.prog 80 #[pt mp, .int .i64 x] w fun e w' => e = .returned (.tuple #[]) ∧ Mem w' mp fb (M.setU x.toNat (M.U x.toNat - 1)) ∧ Only (One fb) w w' := by
  have hs := hM.slice
  have hle := hM.le
  have hu := hM.ub x.toNat
  have hw := hM.user (i := x.toNat) (by omega)
  have hf := hM.froz (x.toNat * 9 + 8)
  go_enter Tryz.func80, Tryz.ntmps80
  go_wp2
  go_end0
  exact ⟨rfl, hM.setU (by omega), (Only.refl _ _).setOne _ _⟩

/-- How many of the first k frames are free. -/
def freeTo (U : Nat → Int) : Nat → Nat
  | 0 => 0
  | k + 1 => freeTo U k + if U k = 0 then 1 else 0
theorem freeTo_le (U : Nat → Int) (k : Nat) : freeTo U k ≤ k := by
  induction k with
  | zero => exact Nat.le_refl _
  | succ k ih => simp only [freeTo]; split <;> omega
def Mm.free (M : Mm) : Nat := freeTo M.U M.n

set_option maxHeartbeats 400000 in
theorem memFree_any {mp fb : Nat} {M : Mm} (w : World) (hM : Mem w mp fb M) :
    Calls Tryz.prog 46 #[pt mp] w fun e w' => e = .returned (.int .i64 M.free) ∧ w = w' := by
  have hs := hM.slice
  have hle := hM.le
  go_enter Tryz.func46, Tryz.ntmps46
  go_wp2
  go_loop [3, 10] (fun t i => ∃ k : Nat, k ≤ M.n ∧ i = .int .i64 k ∧ t = .int .i64 (freeTo M.U k)) (fun _ i => M.n - (intOf i).toNat)
  case atStart => exact ⟨0, Nat.zero_le _, rfl, rfl⟩
  case round =>
    obtain ⟨k, hk, rfl, rfl⟩ := hrel
    have hfl := freeTo_le M.U k
    by_cases hlt : k < M.n
    · have hc := hM.user hlt
      by_cases hu : M.U k = 0
      · have hu' : (M.U k == 0) = true := by simp [hu]
        have HS : Hid (freeTo M.U (k + 1) = freeTo M.U k + 1) := by simp [Hid, freeTo, hu]
        clear hu
        go_wp2
        go_round
        case rel => exact ⟨k + 1, by omega, by go_num, by rw [HS.out]; go_num⟩
        case measure => simp [intOf]; omega
      · have hu' : (M.U k == 0) = false := by simp [hu]
        have HS : Hid (freeTo M.U (k + 1) = freeTo M.U k) := by simp [Hid, freeTo, hu]
        clear hu
        go_wp2
        go_round
        case rel => exact ⟨k + 1, by omega, by go_num, by rw [HS.out]⟩
        case measure => simp [intOf]; omega
    · go_wp2
      go_ret
      have : k = M.n := by omega
      exact ⟨by rw [this]; rfl, rfl⟩

/-- The first free frame of those from k on, f of them. -/
def firstFree (U : Nat → Int) : Nat → Nat → Option Nat
  | _, 0 => none
  | k, f + 1 => if U k = 0 then some k else firstFree U (k + 1) f
def Mm.first (M : Mm) : Option Nat := firstFree M.U 0 M.n
def Mm.take (M : Mm) (i : Nat) : Mm := (M.blank i).setU i 1

theorem Mem.took {w : World} {mp fb : Nat} {M : Mm} (h : Mem w mp fb M) (i : Nat) : Mem (((((((((w.setCell ⟨fb, i * 9, none⟩ (.int .u16 0)).setCell ⟨fb, i * 9 + 1, none⟩ (.int .u16 0)).setCell ⟨fb, i * 9 + 2, none⟩ (.int .u16 0)).setCell ⟨fb, i * 9 + 3, none⟩ (.int .u16 0)).setCell ⟨fb, i * 9 + 4, none⟩ (.int .u16 0)).setCell ⟨fb, i * 9 + 5, none⟩ (.int .u16 0)).setCell ⟨fb, i * 9 + 6, none⟩ (.int .u16 0)).setCell ⟨fb, i * 9 + 7, none⟩ (.int .u16 0)).setCell ⟨fb, i * 9 + 8, none⟩ (.int .i64 1)) mp fb (M.take i) := by
  have z : (0 : Int) ≤ 0 ∧ (0 : Int) ≤ 65535 := by omega
  have h0 : Mem (w.setCell ⟨fb, i * 9, none⟩ (.int .u16 0)) mp fb (M.setW i 0 0) := h.setW (k := 0) (by omega) z
  have h8 := (((((((h0.setW (i := i) (k := 1) (by omega) z).setW (i := i) (k := 2) (by omega) z).setW (i := i) (k := 3) (by omega) z).setW (i := i) (k := 4) (by omega) z).setW (i := i) (k := 5) (by omega) z).setW (i := i) (k := 6) (by omega) z).setW (i := i) (k := 7) (by omega) z).setU (i := i) (v := 1) (by omega)
  obtain ⟨t', r'⟩ := h8.row
  have r2 := r'.congr (g := cellOf (M.take i)) (fun j _ => by
    simp only [cellOf, Mm.take, Mm.setU, Mm.blank, Mm.setW, upd, upd2]
    by_cases e2 : j % 9 < 8
    · rw [if_pos e2, if_pos e2]
      by_cases e3 : j / 9 = i
      · rw [if_pos e3]
        have e4 : j % 9 = 0 ∨ j % 9 = 1 ∨ j % 9 = 2 ∨ j % 9 = 3 ∨ j % 9 = 4 ∨ j % 9 = 5 ∨ j % 9 = 6 ∨ j % 9 = 7 := by omega
        rcases e4 with e | e | e | e | e | e | e | e <;> simp [e, e3]
      · simp [e3]
    · rw [if_neg e2, if_neg e2])
  exact ⟨h8.ptr, ⟨t', r2⟩, h8.ne, h8.le, fun a b => by simp only [Mm.take, Mm.setU, Mm.blank]; split; exact z; exact h.wb a b, h8.ub⟩

set_option maxHeartbeats 400000 in
theorem take_any {mp fb : Nat} {M : Mm} (w : World) (i : Nat) (hM : Mem w mp fb M) (hi : M.first = some i) :
    Calls Tryz.prog 59 #[pt mp] w fun e w' => e = .returned (.int .i64 i) ∧ Mem w' mp fb (M.take i) ∧ Only (One fb) w w' := by
  have hs := hM.slice
  have hle := hM.le
  have HI : Hid (firstFree M.U 0 M.n = some i) := hi
  clear hi
  go_enter Tryz.func59, Tryz.ntmps59
  go_wp2
  go_loop [9] (fun c => ∃ k : Nat, k ≤ M.n ∧ c = .int .i64 k ∧ firstFree M.U k (M.n - k) = some i) (fun c => M.n - (intOf c).toNat)
  case atStart => exact ⟨0, Nat.zero_le _, rfl, HI.out⟩
  case round =>
    obtain ⟨k, hk, rfl, hff⟩ := hrel
    have hlt : k < M.n := by
      rcases Nat.lt_or_ge k M.n with h | h
      · exact h
      · rw [show M.n - k = 0 by omega] at hff
        cases hff
    rw [show M.n - k = (M.n - (k + 1)) + 1 by omega] at hff
    simp only [firstFree] at hff
    have hc := hM.user hlt
    by_cases hu : M.U k = 0
    · rw [if_pos hu] at hff
      have hu' : (M.U k == 0) = true := by simp [hu]
      have HK : Hid (k = i) := by simpa [Hid] using hff
      have c0 : w.cell? ⟨fb, k * 9, none⟩ = _ := hM.word hlt (k := 0) (by omega)
      have c1 := hM.word hlt (k := 1) (by omega)
      have c2 := hM.word hlt (k := 2) (by omega)
      have c3 := hM.word hlt (k := 3) (by omega)
      have c4 := hM.word hlt (k := 4) (by omega)
      have c5 := hM.word hlt (k := 5) (by omega)
      have c6 := hM.word hlt (k := 6) (by omega)
      have c7 := hM.word hlt (k := 7) (by omega)
      have f0 := hM.froz
      clear hu hff
      go_wp2
      go_ret
      have e := HK.out
      subst e
      exact ⟨rfl, hM.took k, (((((((((Only.refl _ _).setOne _ _).setOne _ _).setOne _ _).setOne _ _).setOne _ _).setOne _ _).setOne _ _).setOne _ _).setOne _ _⟩
    · rw [if_neg hu] at hff
      have hu' : (M.U k == 0) = false := by simp [hu]
      have HS := hid hff
      clear hu hff
      go_wp2
      go_round
      case rel => exact ⟨k + 1, by omega, by go_num, HS.out⟩
      case measure => simp [intOf]; omega

end Go.Proofs.YtfcepnhknmbaaaaGreat
