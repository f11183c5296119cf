/- The law Apart: done, further kinds. -/
import Derived.Test.YtfcepnhknmbaaaaApartWalk
namespace Go.Proofs.Ytfcepnhknmbaaaa
open Go.RowKit Go.Deep

section
variable (w : World) (mb : Nat) (own : Nat → Prop) (A : Abs) (h : Rep w mb own A) (gg a b g : Int) (W : Bool)

set_option maxRecDepth 100000 in
set_option maxHeartbeats 2000000 in
theorem done3_any (w : World) (mb : Nat) (own : Nat → Prop) (A : Abs) (h : Rep w mb own A) (gg a b g : Int) (W : Bool) (ha : In64 a) (hb : In64 b) (hg : In64 g) (hk : A.kn < maxLen) : Calls Try.prog 19 #[pt mb, stV 3 gg a b W, .int .i64 g] w (DonePost w mb own A (asks 3 a b W) g) := by
  have o1 : Only Nob w (w.alloc (.cells #[.int .i64 3, .int .i64 gg, .int .i64 a, .int .i64 b, .bool W] 40)) := (Only.refl _ _).alloc _
  have HP := hid (fun w n hn hn2 => pick_any w a n ha.1 ha.2 hn hn2)
  have HC := hid (fun w1 (o : Only Nob (w.alloc (.cells #[.int .i64 3, .int .i64 gg, .int .i64 a, .int .i64 b, .bool W] 40)) w1) => absWrite ((h.nob o1).nob o) g (pickI a 128) (wordI b) hg hk)
  have HW := hid (fun w1 => word46_any w1 3 gg a b W hb)
  clear h
  go_enter Try.func19, Try.ntmps19
  go_wp2_with fail
  refine (HP.out _ 16 (by omega) (by omega)).mono ?_
  rintro e w1 ⟨rfl, rfl⟩
  go_wp2_with fail
  go_cut [12] (fun c wx => ∃ own' A', c = .int .i64 (A.writeCode g (pickI a 128) (wordI b)) ∧ Rep wx mb own' A' ∧ Left w wx own own' ∧ (A.writeCode g (pickI a 128) (wordI b) = 0 → ∃ f c, A.pg g ((pickI a 128).toNat / 8) = some (f, c) ∧ A' = A.wrote f ((pickI a 128).toNat % 8) (wordI b)) ∧ (A.writeCode g (pickI a 128) (wordI b) ≠ 0 → A' = A ∨ A' = A.tick))
  case first =>
    go_region_with (first
      | (go_at_call 11; refine (HP.out _ 128 (by omega) (by omega)).mono ?_; rintro e w' ⟨rfl, rfl⟩)
      | (go_at_call 48; refine (HW.out _).mono ?_; rintro e w3 ⟨rfl, o3⟩)
      | (go_at_call 17; refine (HC.out _ (((Only.refl Nob _).drew).trans o3)).mono ?_; rintro e w4 ⟨own', A', rfl, q1, q2, q3, q4⟩))
    all_goals
      go_wp2_with fail
      go_meet
      case rel => exact ⟨own', A', rfl, q1, leftNob (o1.trans (((Only.refl Nob _).drew).trans o3)) q2, q3, q4⟩
  case rest =>
    obtain ⟨own', A', rfl, q1, q2, q3, q4⟩ := hcut
    have HQ3 := hid q3
    have HQ4 := hid q4
    clear q3 q4
    go_wp2
    refine bodyPost_ret (v := .tuple #[.int .i64 0, .int .i64 0, .int .i64 (A.writeCode g (pickI a 128) (wordI b))]) (by simp [results, Try.results19, go_sem]) rfl ?_
    exact ⟨own', A', 0, 0, _, rfl, q1, q2, Or.inr (Or.inr (Or.inl ⟨rfl, rfl, rfl, rfl, HQ3.out, HQ4.out⟩))⟩
end
end Go.Proofs.Ytfcepnhknmbaaaa

/- The law Apart: done, Store. -/
namespace Go.Proofs.Ytfcepnhknmbaaaa
open Go.RowKit Go.Deep

section
variable (w : World) (mb : Nat) (own : Nat → Prop) (A : Abs) (h : Rep w mb own A) (gg a b g : Int) (W : Bool)

set_option maxRecDepth 100000 in
set_option maxHeartbeats 2000000 in
theorem done6_any (w : World) (mb : Nat) (own : Nat → Prop) (A : Abs) (h : Rep w mb own A) (gg a b g : Int) (W : Bool) (ha : In64 a) (hg : In64 g) (hk : A.kn + 3 < maxLen) : Calls Try.prog 19 #[pt mb, stV 6 gg a b W, .int .i64 g] w (DonePost w mb own A (asks 6 a b W) g) := by
  have o1 : Only Nob w (w.alloc (.cells #[.int .i64 6, .int .i64 gg, .int .i64 a, .int .i64 b, .bool W] 40)) := (Only.refl _ _).alloc _
  have HP := hid (fun n hn hn2 => pick_any (w.alloc (.cells #[.int .i64 6, .int .i64 gg, .int .i64 a, .int .i64 b, .bool W] 40)) a n ha.1 ha.2 hn hn2)
  have HC := hid (absLoad (h.nob o1) g (pickI a 128) hg hk)
  clear h
  go_enter Try.func19, Try.ntmps19
  go_wp2_with fail
  refine (HP.out 16 (by omega) (by omega)).mono ?_
  rintro e w1 ⟨rfl, rfl⟩
  go_wp2_with fail
  refine (HP.out 128 (by omega) (by omega)).mono ?_
  rintro e w1 ⟨rfl, rfl⟩
  go_wp2_with fail
  refine HC.out.mono ?_
  rintro e w2 ⟨own', rfl, q1, q2⟩
  go_wp2_with fail
  refine bodyPost_ret (v := .tuple #[.int .i64 (wrap64 (wrap64 (wrap64 (16 * (A.loadAt g (pickI a 128)).1) + wrap64 (4 * (A.loadAt g (pickI a 128)).2.1)) + (A.loadAt g (pickI a 128)).2.2.1)), .int .i64 0, .int .i64 (A.loadAt g (pickI a 128)).2.2.2]) (by simp [results, Try.results19, go_sem]) rfl ?_
  have o2 : Only Nob w2 (w2.alloc (.cells #[.int .i64 (A.loadAt g (pickI a 128)).2.1, .int .i64 (A.loadAt g (pickI a 128)).2.2.1] 47)) := (Only.refl _ _).alloc _
  exact ⟨own', A.up 3, _, 0, _, rfl, q1.nob o2, leftThen (leftNob o1 q2) o2, Or.inr (Or.inr (Or.inr (Or.inr (Or.inr (Or.inl ⟨rfl, rfl, rfl, rfl, rfl⟩)))))⟩

set_option maxRecDepth 100000 in
set_option maxHeartbeats 2000000 in
theorem done8_any (w : World) (mb : Nat) (own : Nat → Prop) (A : Abs) (h : Rep w mb own A) (gg a b g : Int) (W : Bool) (k : Int) (hk8 : k < 1 ∨ 7 < k) (ha : In64 a) (hb : In64 b) (hg : In64 g) (hk : A.kn + 3 < maxLen) : Calls Try.prog 19 #[pt mb, stV k gg a b W, .int .i64 g] w (DonePost w mb own A (asks k a b W) g) := by
  have o1 : Only Nob w (w.alloc (.cells #[.int .i64 k, .int .i64 gg, .int .i64 a, .int .i64 b, .bool W] 40)) := (Only.refl _ _).alloc _
  have HP := hid (fun w n hn hn2 => pick_any w a n ha.1 ha.2 hn hn2)
  have HPb := hid (fun w n hn hn2 => pick_any w b n hb.1 hb.2 hn hn2)
  have HC := hid (fun w1 (o : Only Nob (w.alloc (.cells #[.int .i64 k, .int .i64 gg, .int .i64 a, .int .i64 b, .bool W] 40)) w1) => absShare ((h.nob o1).nob o) g (pickI a 16) g (pickI b 16) W hg hg (by omega))
  have k1 : (k == 1) = false := by simp; omega
  have k2 : (k == 2) = false := by simp; omega
  have k3 : (k == 3) = false := by simp; omega
  have k4 : (k == 4) = false := by simp; omega
  have k5 : (k == 5) = false := by simp; omega
  have k6 : (k == 6) = false := by simp; omega
  have k7 : (k == 7) = false := by simp; omega
  clear h
  go_enter Try.func19, Try.ntmps19
  go_wp2_with fail
  refine (HP.out _ 16 (by omega) (by omega)).mono ?_
  rintro e w1 ⟨rfl, rfl⟩
  go_wp2_with fail
  go_cut [21] (fun c wx => ∃ own' A', c = .int .i64 (A.shareCode g (pickI a 16) g (pickI b 16) W) ∧ Rep wx mb own' A' ∧ Left w wx own own' ∧ (A.shareCode g (pickI a 16) g (pickI b 16) W = 0 → ∃ f c, A.pg g (pickI a 16).toNat = some (f, c) ∧ A' = A.shared g (pickI b 16).toNat f W) ∧ (A.shareCode g (pickI a 16) g (pickI b 16) W ≠ 0 → A' = A.up 2))
  case first =>
    go_region_with (first
      | (go_at_call 11; refine (HPb.out _ 16 (by omega) (by omega)).mono ?_; rintro e w' ⟨rfl, rfl⟩)
      | (go_at_call 20; refine (HC.out _ ((Only.refl Nob _).drew)).mono ?_; rintro e w4 ⟨own', A', rfl, q1, q2, q3, q4⟩))
    all_goals
      go_wp2_with fail
      go_meet
      case rel => exact ⟨own', A', rfl, q1, leftNob (o1.trans ((Only.refl Nob _).drew)) q2, q3, q4⟩
  case rest =>
    obtain ⟨own', A', rfl, q1, q2, q3, q4⟩ := hcut
    have HQ3 := hid q3
    have HQ4 := hid q4
    clear q3 q4
    go_wp2
    refine bodyPost_ret (v := .tuple #[.int .i64 0, .int .i64 0, .int .i64 (A.shareCode g (pickI a 16) g (pickI b 16) W)]) (by simp [results, Try.results19, go_sem]) rfl ?_
    exact ⟨own', A', 0, 0, _, rfl, q1, q2, Or.inr (Or.inr (Or.inr (Or.inr (Or.inr (Or.inr (Or.inr ⟨hk8, rfl, rfl, rfl, HQ3.out, HQ4.out⟩))))))⟩
end
end Go.Proofs.Ytfcepnhknmbaaaa
