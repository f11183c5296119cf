/- The contracts of a machine's word, setWord, checkWord; memory's Hold. -/
import Derived.Test.YtfcepnhknmbaaaaMachWalks
namespace Go.Proofs.Ytfcepnhknmbaaaa
open Go.RowKit Go.Deep
open Go.Maps (Keyed)

def MS.withM (S : MS) (M : Mm) : MS := { S with M := M }

set_option maxHeartbeats 400000 in
theorem mword_any (w : World) (mb : Nat) (S : MS) (h : Mach w mb S) (x a : Int) (h0 : 0 ≤ a) (h1 : a < 512) (hx : 0 ≤ x ∧ x ≤ 65535) (hn : numb x < S.M.n) :
    Calls Try.prog 47 #[pt mb, .int .u16 x, .int .i64 a] w fun e w' => e = .returned (.int .i64 (S.M.W (numb x) (a.toNat % 8))) ∧ Only Nob w w' := by
  have c0 : w.cell? ⟨mb, 0, none⟩ = some (pt S.mp) := h.c0
  have hm2 : Mem w S.mp S.fb S.M := h.mem
  have hwb := h.mem.wb (numb x) (a % 8).toNat
  have hmod := Int.tmod_eq_emod_of_nonneg h0 (b := 8)
  go_enter Try.func47, Try.ntmps47
  go_wp2_with fail
  go_quiet (first | (go_at_call 50; exact quiet_same (number_any _ _ hx.1 hx.2)) | (go_at_call 67; exact quiet_same (word_any (mp := S.mp) (fb := S.fb) (M := S.M) _ _ _ (hm2.drewN _) (by omega) (by omega) (by omega) (by omega))))
  go_wp2
  go_ret
  refine ⟨?_, (Only.refl Nob w).drewN _⟩
  show Ending.returned (.int .i64 (S.M.W (numb x) (a % 8).toNat)) = _
  rw [show (a % 8).toNat = a.toNat % 8 by omega]

set_option maxHeartbeats 400000 in
theorem msetWord_any (w : World) (mb : Nat) (S : MS) (h : Mach w mb S) (x a v : Int) (h0 : 0 ≤ a) (h1 : a < 512) (hv0 : 0 ≤ v) (hv1 : v ≤ 65535) (hx : 0 ≤ x ∧ x ≤ 65535) (hn : numb x < S.M.n) :
    Calls Try.prog 45 #[pt mb, .int .u16 x, .int .i64 a, .int .i64 v] w fun e w' => e = .returned (.tuple #[]) ∧ Mach w' mb (S.withM (S.M.setW (numb x) (a.toNat % 8) v)) ∧ Only (One S.fb) w w' := by
  have c0 : w.cell? ⟨mb, 0, none⟩ = some (pt S.mp) := h.c0
  have hm2 : Mem w S.mp S.fb S.M := h.mem
  have hmod := Int.tmod_eq_emod_of_nonneg h0 (b := 8)
  have hwr : IntKind.u16.wrap v = v := by rw [IntKind.wrap_u16]; omega
  go_enter Try.func45, Try.ntmps45
  go_wp2_with fail
  go_region_with (first
    | (go_at_call 50; refine (number_any _ _ hx.1 hx.2).mono ?_; rintro e w' ⟨rfl, rfl⟩)
    | (go_at_call 66; refine (setWord_any (mp := S.mp) (fb := S.fb) (M := S.M) _ _ _ _ hm2.drew (by omega) (by omega) (by omega) (by omega) hv0 hv1).mono ?_; rintro e w3 ⟨rfl, hM3, ho3⟩))
  all_goals
    go_wp2
    go_end0
    rw [Int.toNat_natCast, show (a % 8).toNat = a.toNat % 8 by omega] at hM3
    exact ⟨rfl, (h.nob (Only.refl Nob w).drew).turnM hM3 ho3, (Only.refl _ w).drew.trans ho3⟩

def checkW (S : MS) (g a v : Int) : Int := if checkE S g (isAd a) ≠ 0 then checkE S g (isAd a) else if v < 0 ∨ 65535 < v then 9 else 0

set_option maxHeartbeats 400000 in
theorem checkWord_any (w : World) (mb : Nat) (S : MS) (h : Mach w mb S) (g a v : Int) (hg64 : In64 g) :
    Calls Try.prog 43 #[pt mb, .int .i64 g, .int .i64 a, .int .i64 v] w fun e w' => e = .returned (.int .i64 (checkW S g a v)) ∧ Only Nob w w' := by
  by_cases hb : checkE S g (isAd a) = 0
  · have HC := hid hb
    clear hb
    by_cases hv : v < 0
    · have HE : Hid (checkW S g a v = 9) := by simp [Hid, checkW, HC.out, hv]
      go_enter Try.func43, Try.ntmps43
      go_wp2_with fail
      refine (isAddress_any _ a).mono ?_
      rintro e w1 ⟨rfl, rfl⟩
      go_wp2_with fail
      refine (check_any _ mb S h g hg64 _).mono ?_
      rintro e w1 ⟨rfl, ho⟩
      rw [HC.out]
      go_wp2_with fail
      go_ret
      exact ⟨ret_int HE.out.symm, ho⟩
    · by_cases hv2 : 65535 < v
      · have HE : Hid (checkW S g a v = 9) := by simp [Hid, checkW, HC.out, hv2]
        go_enter Try.func43, Try.ntmps43
        go_wp2_with fail
        refine (isAddress_any _ a).mono ?_
        rintro e w1 ⟨rfl, rfl⟩
        go_wp2_with fail
        refine (check_any _ mb S h g hg64 _).mono ?_
        rintro e w1 ⟨rfl, ho⟩
        rw [HC.out]
        go_wp2_with fail
        go_ret
        exact ⟨ret_int HE.out.symm, ho⟩
      · have HE : Hid (checkW S g a v = 0) := by simp [Hid, checkW, HC.out, hv, hv2]
        go_enter Try.func43, Try.ntmps43
        go_wp2_with fail
        refine (isAddress_any _ a).mono ?_
        rintro e w1 ⟨rfl, rfl⟩
        go_wp2_with fail
        refine (check_any _ mb S h g hg64 _).mono ?_
        rintro e w1 ⟨rfl, ho⟩
        rw [HC.out]
        go_wp2_with fail
        go_ret
        exact ⟨ret_int HE.out.symm, ho⟩
  · have HE : Hid (checkW S g a v = checkE S g (isAd a)) := by simp [Hid, checkW, hb]
    have hb' : (checkE S g (isAd a) != 0) = true := by simp [hb]
    clear hb
    go_enter Try.func43, Try.ntmps43
    go_wp2_with fail
    refine (isAddress_any _ a).mono ?_
    rintro e w1 ⟨rfl, rfl⟩
    go_wp2_with fail
    refine (check_any _ mb S h g hg64 _).mono ?_
    rintro e w1 ⟨rfl, ho⟩
    go_wp2_with fail
    go_ret
    exact ⟨ret_int HE.out.symm, ho⟩

def Mm.hold (M : Mm) (f : Nat) : Mm := M.setU f (M.U f + 1)

set_option maxHeartbeats 400000 in
theorem hold_any {mp fb : Nat} {M : Mm} (w : World) (x : Int) (hM : Mem w mp fb M) (h0 : 0 ≤ x) (h1 : x < M.n) (hu : 0 ≤ M.U x.toNat) (hu2 : M.U x.toNat < 1000000) :
    Calls Try.prog 49 #[pt mp, .int .i64 x] w fun e w' => e = .returned (.tuple #[]) ∧ Mem w' mp fb (M.hold x.toNat) ∧ Only (One fb) w w' := by
  have hs := hM.slice
  have hle := hM.le
  have hw := hM.user (i := x.toNat) (by omega)
  have hf := hM.froz (x.toNat * 9 + 8)
  go_enter Try.func49, Try.ntmps49
  go_wp2
  go_end0
  exact ⟨rfl, hM.setU (by omega), (Only.refl _ _).setOne _ _⟩
end Go.Proofs.Ytfcepnhknmbaaaa
