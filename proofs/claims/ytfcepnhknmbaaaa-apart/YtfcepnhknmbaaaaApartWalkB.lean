/- The law Apart: done, further kinds. -/
import Derived.Test.YtfcepnhknmbaaaaApartWalk
namespace Go.Proofs.Ytfcepnhknmbaaaa
open Go.RowKit Go.Deep

section
variable (w : World) (mb : Nat) (own : Nat → Prop) (A : Abs) (h : Rep w mb own A) (gg a b g : Int) (W : Bool)

set_option maxRecDepth 100000 in
set_option maxHeartbeats 2000000 in
include h in
theorem done3_any (ha : In64 a) (hb : In64 b) (hg : In64 g) (hk : A.kn < maxLen) : Calls Try.prog 19 #[pt mb, stV 3 gg a b W, .int .i64 g] w (DonePost w mb own A (asks 3 a b W) g) := by
  have o1 : Only Nob w (w.alloc (.cells #[.int .i64 3, .int .i64 gg, .int .i64 a, .int .i64 b, .bool W] 40)) := (Only.refl _ _).alloc _
  have HP := hid (fun w n hn hn2 => pick_any w a n ha.1 ha.2 hn hn2)
  have HC := hid (fun w1 (o : Only Nob (w.alloc (.cells #[.int .i64 3, .int .i64 gg, .int .i64 a, .int .i64 b, .bool W] 40)) w1) => absWrite ((h.nob o1).nob o) g (pickI a 128) (wordI b) hg hk)
  have HW := hid (fun w1 => word46_any w1 3 gg a b W hb)
  clear h
  go_enter Try.func19, Try.ntmps19
  go_wp2_with fail
  refine (HP.out _ 16 (by omega) (by omega)).mono ?_
  rintro e w1 ⟨rfl, rfl⟩
  go_wp2_with fail
  go_cut [12] (fun c wx => ∃ own' A', c = .int .i64 (A.writeCode g (pickI a 128) (wordI b)) ∧ Rep wx mb own' A' ∧ Left w wx own own' ∧ (A.writeCode g (pickI a 128) (wordI b) = 0 → ∃ f c, A.pg g ((pickI a 128).toNat / 8) = some (f, c) ∧ A' = A.wrote f ((pickI a 128).toNat % 8) (wordI b)) ∧ (A.writeCode g (pickI a 128) (wordI b) ≠ 0 → A' = A ∨ A' = A.tick))
  case first =>
    go_region_with (first
      | (go_at_call 11; refine (HP.out _ 128 (by omega) (by omega)).mono ?_; rintro e w' ⟨rfl, rfl⟩)
      | (go_at_call 48; refine (HW.out _).mono ?_; rintro e w3 ⟨rfl, o3⟩)
      | (go_at_call 17; refine (HC.out _ (((Only.refl Nob _).drew).trans o3)).mono ?_; rintro e w4 ⟨own', A', rfl, q1, q2, q3, q4⟩))
    all_goals
      go_wp2_with fail
      go_meet
      case rel => exact ⟨own', A', rfl, q1, leftNob (o1.trans (((Only.refl Nob _).drew).trans o3)) q2, q3, q4⟩
  case rest =>
    obtain ⟨own', A', rfl, q1, q2, q3, q4⟩ := hcut
    have HQ3 := hid q3
    have HQ4 := hid q4
    clear q3 q4
    go_wp2
    refine bodyPost_ret (v := .tuple #[.int .i64 0, .int .i64 0, .int .i64 (A.writeCode g (pickI a 128) (wordI b))]) (by simp [results, Try.results19, go_sem]) rfl ?_
    exact ⟨own', A', 0, 0, _, rfl, q1, q2, Or.inr (Or.inr (Or.inl ⟨rfl, rfl, rfl, rfl, HQ3.out, HQ4.out⟩))⟩
end
end Go.Proofs.Ytfcepnhknmbaaaa
