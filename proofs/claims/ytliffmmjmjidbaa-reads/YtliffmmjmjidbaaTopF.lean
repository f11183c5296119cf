/- The contract of Write. -/
import Derived.Test.YtliffmmjmjidbaaTopE
namespace Go.Proofs.Ytliffmmjmjidbaa
open Go.RowKit Go.Deep
open Go.Maps (Keyed)

set_option maxHeartbeats 400000 in
theorem writeBad_any (w : World) (mb : Nat) (S : MS) (h : Mach w mb S) (g a v : Int) (hg64 : In64 g) (hb : checkE S g (isAd a) ≠ 0) :
    Calls Try.prog 15 #[pt mb, .int .i64 g, .int .i64 a, .int .i64 v] w fun e w' => e = .returned (.int .i64 (checkE S g (isAd a))) ∧ Only Nob w w' := by
  have hb' : (checkE S g (isAd a) != 0) = true := by simp [hb]
  clear hb
  go_enter Try.func15, Try.ntmps15
  go_wp2_with fail
  refine (isAddress_any _ a).mono ?_
  rintro e w1 ⟨rfl, rfl⟩
  go_wp2_with fail
  refine (check_any _ mb S h g hg64 _).mono ?_
  rintro e w1 ⟨rfl, ho⟩
  go_wp2_with fail
  go_ret
  exact ⟨rfl, ho⟩

set_option maxHeartbeats 400000 in
theorem writeValue_any (w : World) (mb : Nat) (S : MS) (h : Mach w mb S) (g a v : Int) (hg64 : In64 g) (hc : checkE S g (isAd a) = 0) (hv : v < 0 ∨ 65535 < v) :
    Calls Try.prog 15 #[pt mb, .int .i64 g, .int .i64 a, .int .i64 v] w fun e w' => e = .returned (.int .i64 9) ∧ Only Nob w w' := by
  have HC := hid hc
  clear hc
  rcases hv with hv | hv
  · go_enter Try.func15, Try.ntmps15
    go_wp2_with fail
    refine (isAddress_any _ a).mono ?_
    rintro e w1 ⟨rfl, rfl⟩
    go_wp2_with fail
    refine (check_any _ mb S h g hg64 _).mono ?_
    rintro e w1 ⟨rfl, ho⟩
    rw [HC.out]
    go_wp2_with fail
    go_ret
    exact ⟨rfl, ho⟩
  · have hv2 : ¬ v < 0 := by omega
    go_enter Try.func15, Try.ntmps15
    go_wp2_with fail
    refine (isAddress_any _ a).mono ?_
    rintro e w1 ⟨rfl, rfl⟩
    go_wp2_with fail
    refine (check_any _ mb S h g hg64 _).mono ?_
    rintro e w1 ⟨rfl, ho⟩
    rw [HC.out]
    go_wp2_with fail
    go_ret
    exact ⟨rfl, ho⟩

set_option maxHeartbeats 1000000 in
theorem writeAbsent_any (w : World) (mb : Nat) (S : MS) (h : Mach w mb S) (g a v : Int) (r : Nat) (h0 : 0 ≤ a) (h1 : a < 512) (hv0 : 0 ≤ v) (hv1 : v ≤ 65535) (hd : Good S g (a / 8) r) (hx : pres (S.M.ent r (a / 8).toNat) = false) :
    Calls Try.prog 15 #[pt mb, .int .i64 g, .int .i64 a, .int .i64 v] w fun e w' => ∃ kb kn K, e = .returned (.int .i64 7) ∧ Mach w' mb (S.cached kb kn K) ∧ Goes w.heap.size S kb kn K (g, a / 8) (S.M.ent r (a / 8).toNat) ∧ Only (S.own mb) w w' := by
  have hb := ent_bd h.mem r (a / 8).toNat
  have hg64 := hd.g64
  go_enter Try.func15, Try.ntmps15
  go_wp2_with fail
  refine (isAddress_any _ a).mono ?_
  rintro e w1 ⟨rfl, rfl⟩
  go_wp2_with fail
  refine (check_any _ mb S h g hg64 _).mono ?_
  rintro e w1 ⟨rfl, ho⟩
  rw [Good.checkA h0 h1 hd]
  have h1' := h.nob ho
  go_wp2_with fail
  refine (mwalk_any _ mb S h1' g (a / 8) r hd.g64 hd.G hd.p0 hd.p1 hd.root hd.tab hd.K hd.kn).mono ?_
  rintro e w2 ⟨kb, kn, K, rfl, h2, hG2, ho2⟩
  have hG3 : Goes w.heap.size S kb kn K (g, a / 8) (S.M.ent r (a / 8).toNat) := ⟨fun b hb => (hG2.kb b hb).imp id (fun x => Nat.le_trans ho.size x), hG2.kn, hG2.K⟩
  have hO2 := (ho.of_nob (S := S.own mb)).trans ho2
  go_wp2_with (go_at_call 24; refine (present_any _ _ hb.1 hb.2).mono ?_; rintro e w' ⟨rfl, rfl⟩)
  go_ret
  exact ⟨kb, kn, K, rfl, h2, hG3, hO2⟩

set_option maxHeartbeats 1000000 in
theorem writeDenied_any (w : World) (mb : Nat) (S : MS) (h : Mach w mb S) (g a v : Int) (r : Nat) (h0 : 0 ≤ a) (h1 : a < 512) (hv0 : 0 ≤ v) (hv1 : v ≤ 65535) (hd : Good S g (a / 8) r) (hx : pres (S.M.ent r (a / 8).toNat) = true) (hw : wrib (S.M.ent r (a / 8).toNat) = false) :
    Calls Try.prog 15 #[pt mb, .int .i64 g, .int .i64 a, .int .i64 v] w fun e w' => ∃ kb kn K, e = .returned (.int .i64 8) ∧ Mach w' mb (S.cached kb kn K) ∧ Goes w.heap.size S kb kn K (g, a / 8) (S.M.ent r (a / 8).toNat) ∧ Only (S.own mb) w w' := by
  have hb := ent_bd h.mem r (a / 8).toNat
  have hg64 := hd.g64
  go_enter Try.func15, Try.ntmps15
  go_wp2_with fail
  refine (isAddress_any _ a).mono ?_
  rintro e w1 ⟨rfl, rfl⟩
  go_wp2_with fail
  refine (check_any _ mb S h g hg64 _).mono ?_
  rintro e w1 ⟨rfl, ho⟩
  rw [Good.checkA h0 h1 hd]
  have h1' := h.nob ho
  go_wp2_with fail
  refine (mwalk_any _ mb S h1' g (a / 8) r hd.g64 hd.G hd.p0 hd.p1 hd.root hd.tab hd.K hd.kn).mono ?_
  rintro e w2 ⟨kb, kn, K, rfl, h2, hG2, ho2⟩
  have hG3 : Goes w.heap.size S kb kn K (g, a / 8) (S.M.ent r (a / 8).toNat) := ⟨fun b hb => (hG2.kb b hb).imp id (fun x => Nat.le_trans ho.size x), hG2.kn, hG2.K⟩
  have hO2 := (ho.of_nob (S := S.own mb)).trans ho2
  go_wp2_with (first | (go_at_call 24; refine (present_any _ _ hb.1 hb.2).mono ?_; rintro e w' ⟨rfl, rfl⟩) | (go_at_call 34; refine (writable_any _ _ hb.1 hb.2).mono ?_; rintro e w' ⟨rfl, rfl⟩))
  go_ret
  exact ⟨kb, kn, K, rfl, h2, hG3, hO2⟩

set_option maxHeartbeats 1000000 in
theorem writeGood_any (w : World) (mb : Nat) (S : MS) (h : Mach w mb S) (g a v : Int) (r : Nat) (h0 : 0 ≤ a) (h1 : a < 512) (hv0 : 0 ≤ v) (hv1 : v ≤ 65535) (hd : Good S g (a / 8) r) (hx : pres (S.M.ent r (a / 8).toNat) = true) (hw : wrib (S.M.ent r (a / 8).toNat) = true) (hn : numb (S.M.ent r (a / 8).toNat) < S.M.n) :
    Calls Try.prog 15 #[pt mb, .int .i64 g, .int .i64 a, .int .i64 v] w fun e w' => ∃ kb kn K, e = .returned (.int .i64 0) ∧ Mach w' mb ((S.cached kb kn K).withM (S.M.setW (numb (S.M.ent r (a / 8).toNat)) (a.toNat % 8) v)) ∧ Goes w.heap.size S kb kn K (g, a / 8) (S.M.ent r (a / 8).toNat) ∧ Only (S.own mb) w w' := by
  have hb := ent_bd h.mem r (a / 8).toNat
  have hg64 := hd.g64
  have hmod := Int.tmod_eq_emod_of_nonneg h0 (b := 8)
  have hwr : IntKind.u16.wrap v = v := by rw [IntKind.wrap_u16]; omega
  go_enter Try.func15, Try.ntmps15
  go_wp2_with fail
  refine (isAddress_any _ a).mono ?_
  rintro e w1 ⟨rfl, rfl⟩
  go_wp2_with fail
  refine (check_any _ mb S h g hg64 _).mono ?_
  rintro e w1 ⟨rfl, ho⟩
  rw [Good.checkA h0 h1 hd]
  have h1' := h.nob ho
  go_wp2_with fail
  refine (mwalk_any _ mb S h1' g (a / 8) r hd.g64 hd.G hd.p0 hd.p1 hd.root hd.tab hd.K hd.kn).mono ?_
  rintro e w2 ⟨kb, kn, K, rfl, h2, hG2, ho2⟩
  have hG3 : Goes w.heap.size S kb kn K (g, a / 8) (S.M.ent r (a / 8).toNat) := ⟨fun b hb => (hG2.kb b hb).imp id (fun x => Nat.le_trans ho.size x), hG2.kn, hG2.K⟩
  have hO2 := (ho.of_nob (S := S.own mb)).trans ho2
  have c0 : w2.cell? ⟨mb, 0, none⟩ = some (pt S.mp) := h2.c0
  have hm2 : Mem w2 S.mp S.fb S.M := h2.mem
  go_wp2_with (first | (go_at_call 24; refine (present_any _ _ hb.1 hb.2).mono ?_; rintro e w' ⟨rfl, rfl⟩) | (go_at_call 34; refine (writable_any _ _ hb.1 hb.2).mono ?_; rintro e w' ⟨rfl, rfl⟩))
  go_region_with (first
    | (go_at_call 36; refine (number_any _ _ hb.1 hb.2).mono ?_; rintro e w' ⟨rfl, rfl⟩)
    | (go_at_call 35; refine (setWord_any (mp := S.mp) (fb := S.fb) (M := S.M) _ _ _ _ hm2.drew (by omega) (by omega) (by omega) (by omega) hv0 hv1).mono ?_; rintro e w3 ⟨rfl, hM3, ho3⟩))
  all_goals
    go_wp2
    go_ret
    rw [Int.toNat_natCast, show (a % 8).toNat = a.toNat % 8 by omega] at hM3
    exact ⟨kb, kn, K, rfl, (h2.nob (Only.refl Nob w2).drew).turnM hM3 ho3, hG3, hO2.drew.after ho3 (fun b _ hb => Or.inr (Or.inr (Or.inl hb)))⟩
end Go.Proofs.Ytliffmmjmjidbaa
