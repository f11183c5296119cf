/- The contract of Write. -/
import Derived.Test.YtfcepnhknmbaaaaTopE
namespace Go.Proofs.Ytfcepnhknmbaaaa
open Go.RowKit Go.Deep
open Go.Maps (Keyed)

set_option maxHeartbeats 400000 in
theorem writeBad_any (w : World) (mb : Nat) (S : MS) (h : Mach w mb S) (g a v : Int) (hg64 : In64 g) (hb : checkE S g (isAd a) ≠ 0) :
    Calls Try.prog 17 #[pt mb, .int .i64 g, .int .i64 a, .int .i64 v] w fun e w' => e = .returned (.int .i64 (checkE S g (isAd a))) ∧ Only Nob w w' := by
  have HW : Hid (checkW S g a v = checkE S g (isAd a)) := by simp [Hid, checkW, hb]
  have hb' : (checkE S g (isAd a) != 0) = true := by simp [hb]
  clear hb
  go_enter Try.func17, Try.ntmps17
  go_wp2_with fail
  refine (checkWord_any _ mb S h g a v hg64).mono ?_
  rintro e w1 ⟨rfl, ho⟩
  rw [HW.out]
  go_wp2_with fail
  go_ret
  exact ⟨rfl, ho⟩

set_option maxHeartbeats 400000 in
theorem writeValue_any (w : World) (mb : Nat) (S : MS) (h : Mach w mb S) (g a v : Int) (hg64 : In64 g) (hc : checkE S g (isAd a) = 0) (hv : v < 0 ∨ 65535 < v) :
    Calls Try.prog 17 #[pt mb, .int .i64 g, .int .i64 a, .int .i64 v] w fun e w' => e = .returned (.int .i64 9) ∧ Only Nob w w' := by
  have HW : Hid (checkW S g a v = 9) := by simp [Hid, checkW, hc, hv]
  clear hc hv
  go_enter Try.func17, Try.ntmps17
  go_wp2_with fail
  refine (checkWord_any _ mb S h g a v hg64).mono ?_
  rintro e w1 ⟨rfl, ho⟩
  rw [HW.out]
  go_wp2_with fail
  go_ret
  exact ⟨rfl, ho⟩

theorem checkW_ok {S : MS} {g a v : Int} {r : Nat} (h0 : 0 ≤ a) (h1 : a < 512) (hv0 : 0 ≤ v) (hv1 : v ≤ 65535) (h : S.G g = some r) : checkW S g a v = 0 := by
  have h2 : checkE S g (isAd a) = 0 := by simp [checkE, h, isAd, h0, h1]
  have h3 : ¬ (v < 0 ∨ 65535 < v) := by omega
  simp [checkW, h2, h3]

set_option maxHeartbeats 1000000 in
theorem writeAbsent_any (w : World) (mb : Nat) (S : MS) (h : Mach w mb S) (g a v : Int) (r : Nat) (h0 : 0 ≤ a) (h1 : a < 512) (hv0 : 0 ≤ v) (hv1 : v ≤ 65535) (hd : Good S g (a / 8) r) (hx : pres (S.M.ent r (a / 8).toNat) = false) :
    Calls Try.prog 17 #[pt mb, .int .i64 g, .int .i64 a, .int .i64 v] w fun e w' => ∃ kb kn K, e = .returned (.int .i64 7) ∧ Mach w' mb (S.cached kb kn K) ∧ Goes w.heap.size S kb kn K (g, a / 8) (S.M.ent r (a / 8).toNat) ∧ Only (S.own mb) w w' := by
  have hb := ent_bd h.mem r (a / 8).toNat
  have hg64 := hd.g64
  have HW := hid (checkW_ok h0 h1 hv0 hv1 hd.G)
  go_enter Try.func17, Try.ntmps17
  go_wp2_with fail
  refine (checkWord_any _ mb S h g a v hg64).mono ?_
  rintro e w1 ⟨rfl, ho⟩
  rw [HW.out]
  have h1' := h.nob ho
  go_wp2_with fail
  refine (mwalk_any _ mb S h1' g (a / 8) r hd.g64 hd.G hd.p0 hd.p1 hd.root hd.tab hd.K hd.kn).mono ?_
  rintro e w2 ⟨kb, kn, K, rfl, h2, hG2, ho2⟩
  have hG3 : Goes w.heap.size S kb kn K (g, a / 8) (S.M.ent r (a / 8).toNat) := ⟨fun b hb => (hG2.kb b hb).imp id (fun x => Nat.le_trans ho.size x), hG2.kn, hG2.K⟩
  have hO2 := (ho.of_nob (S := S.own mb)).trans ho2
  go_wp2_with (go_at_call 34; refine (present_any _ _ hb.1 hb.2).mono ?_; rintro e w' ⟨rfl, rfl⟩)
  go_ret
  exact ⟨kb, kn, K, rfl, h2, hG3, hO2⟩

set_option maxHeartbeats 1000000 in
theorem writeDenied_any (w : World) (mb : Nat) (S : MS) (h : Mach w mb S) (g a v : Int) (r : Nat) (h0 : 0 ≤ a) (h1 : a < 512) (hv0 : 0 ≤ v) (hv1 : v ≤ 65535) (hd : Good S g (a / 8) r) (hx : pres (S.M.ent r (a / 8).toNat) = true) (hw : wrib (S.M.ent r (a / 8).toNat) = false) :
    Calls Try.prog 17 #[pt mb, .int .i64 g, .int .i64 a, .int .i64 v] w fun e w' => ∃ kb kn K, e = .returned (.int .i64 8) ∧ Mach w' mb (S.cached kb kn K) ∧ Goes w.heap.size S kb kn K (g, a / 8) (S.M.ent r (a / 8).toNat) ∧ Only (S.own mb) w w' := by
  have hb := ent_bd h.mem r (a / 8).toNat
  have hg64 := hd.g64
  have HW := hid (checkW_ok h0 h1 hv0 hv1 hd.G)
  go_enter Try.func17, Try.ntmps17
  go_wp2_with fail
  refine (checkWord_any _ mb S h g a v hg64).mono ?_
  rintro e w1 ⟨rfl, ho⟩
  rw [HW.out]
  have h1' := h.nob ho
  go_wp2_with fail
  refine (mwalk_any _ mb S h1' g (a / 8) r hd.g64 hd.G hd.p0 hd.p1 hd.root hd.tab hd.K hd.kn).mono ?_
  rintro e w2 ⟨kb, kn, K, rfl, h2, hG2, ho2⟩
  have hG3 : Goes w.heap.size S kb kn K (g, a / 8) (S.M.ent r (a / 8).toNat) := ⟨fun b hb => (hG2.kb b hb).imp id (fun x => Nat.le_trans ho.size x), hG2.kn, hG2.K⟩
  have hO2 := (ho.of_nob (S := S.own mb)).trans ho2
  go_wp2_with (first | (go_at_call 34; refine (present_any _ _ hb.1 hb.2).mono ?_; rintro e w' ⟨rfl, rfl⟩) | (go_at_call 44; refine (writable_any _ _ hb.1 hb.2).mono ?_; rintro e w' ⟨rfl, rfl⟩))
  go_ret
  exact ⟨kb, kn, K, rfl, h2, hG3, hO2⟩

set_option maxHeartbeats 1000000 in
theorem writeGood_any (w : World) (mb : Nat) (S : MS) (h : Mach w mb S) (g a v : Int) (r : Nat) (h0 : 0 ≤ a) (h1 : a < 512) (hv0 : 0 ≤ v) (hv1 : v ≤ 65535) (hd : Good S g (a / 8) r) (hx : pres (S.M.ent r (a / 8).toNat) = true) (hw : wrib (S.M.ent r (a / 8).toNat) = true) (hn : numb (S.M.ent r (a / 8).toNat) < S.M.n) :
    Calls Try.prog 17 #[pt mb, .int .i64 g, .int .i64 a, .int .i64 v] w fun e w' => ∃ kb kn K, e = .returned (.int .i64 0) ∧ Mach w' mb ((S.cached kb kn K).withM (S.M.setW (numb (S.M.ent r (a / 8).toNat)) (a.toNat % 8) v)) ∧ Goes w.heap.size S kb kn K (g, a / 8) (S.M.ent r (a / 8).toNat) ∧ Only (S.own mb) w w' := by
  have hb := ent_bd h.mem r (a / 8).toNat
  have hg64 := hd.g64
  have HW := hid (checkW_ok h0 h1 hv0 hv1 hd.G)
  go_enter Try.func17, Try.ntmps17
  go_wp2_with fail
  refine (checkWord_any _ mb S h g a v hg64).mono ?_
  rintro e w1 ⟨rfl, ho⟩
  rw [HW.out]
  have h1' := h.nob ho
  go_wp2_with fail
  refine (mwalk_any _ mb S h1' g (a / 8) r hd.g64 hd.G hd.p0 hd.p1 hd.root hd.tab hd.K hd.kn).mono ?_
  rintro e w2 ⟨kb, kn, K, rfl, h2, hG2, ho2⟩
  have hG3 : Goes w.heap.size S kb kn K (g, a / 8) (S.M.ent r (a / 8).toNat) := ⟨fun b hb => (hG2.kb b hb).imp id (fun x => Nat.le_trans ho.size x), hG2.kn, hG2.K⟩
  have hO2 := (ho.of_nob (S := S.own mb)).trans ho2
  go_wp2_with (first | (go_at_call 34; refine (present_any _ _ hb.1 hb.2).mono ?_; rintro e w' ⟨rfl, rfl⟩) | (go_at_call 44; refine (writable_any _ _ hb.1 hb.2).mono ?_; rintro e w' ⟨rfl, rfl⟩) | (go_at_call 45; refine (msetWord_any _ mb _ h2 _ a v h0 h1 hv0 hv1 hb hn).mono ?_; rintro e w3 ⟨rfl, hM3, ho3⟩))
  go_ret
  exact ⟨kb, kn, K, rfl, hM3, hG3, hO2.after ho3 (fun b _ hb => Or.inr (Or.inr (Or.inl hb)))⟩
end Go.Proofs.Ytfcepnhknmbaaaa
