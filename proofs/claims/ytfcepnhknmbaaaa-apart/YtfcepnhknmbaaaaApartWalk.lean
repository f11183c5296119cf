/- The law Apart: the contracts of word and done. -/
import Derived.Test.YtfcepnhknmbaaaaApartStep
import Derived.Test.YtfcepnhknmbaaaaKeepC
namespace Go.Proofs.Ytfcepnhknmbaaaa
open Go.RowKit Go.Deep

abbrev stV (k g a b : Int) (W : Bool) : Value := .agg #[.int .i64 k, .int .i64 g, .int .i64 a, .int .i64 b, .bool W]
def wordI (b : Int) : Int := wrap64 (wrap64 ((wrap64 ((bits BinOp.and IntKind.i64 (pickI b 65536) 65532).tdiv 4)).tmod 16 * 4) + bits BinOp.and IntKind.i64 b 3)
def asks (k a b : Int) (W : Bool) : Asks := ⟨k, pickI a 16, pickI b 16, pickI a 128, wordI b, W⟩
theorem asks_ok (k a b : Int) (W : Bool) : (asks k a b W).ok := by
  have h1 := pickI_bd a 16 (by omega)
  have h2 := pickI_bd b 16 (by omega)
  have h3 := pickI_bd a 128 (by omega)
  exact ⟨h1.1, h1.2, h2.1, h2.2, h3.1, h3.2⟩

set_option maxHeartbeats 1000000 in
theorem word46_any (w : World) (k g a b : Int) (W : Bool) (hb : In64 b) :
    Calls Try.prog 48 #[stV k g a b W] w fun e w' => e = .returned (.int .i64 (wordI b)) ∧ Only Nob w w' := by
  have hp := pickI_bd b 65536 (by omega)
  have HP := hid (fun w => pick_any w b 65536 hb.1 hb.2 (by omega) (by omega))
  go_enter Try.func48, Try.ntmps48
  go_wp2_with fail
  go_quiet (first | (go_at_call 11; exact quiet_same (HP.out _)))
  go_wp2
  go_ret
  exact ⟨rfl, ((Only.refl Nob w).alloc _).drewN _⟩

theorem leftNob {w w0 w' : World} {own own' : Nat → Prop} (o : Only Nob w w0) (l : Left w0 w' own own') : Left w w' own own' :=
  ⟨(o.of_nob (S := own)).trans l.only, fun b hb => (l.ext b hb).imp id (fun q => Nat.le_trans o.size q)⟩
theorem leftThen {w w0 w' : World} {own own' : Nat → Prop} (l : Left w w0 own own') (o : Only Nob w0 w') : Left w w' own own' :=
  ⟨l.only.after o (fun _ _ q => q.elim), l.ext⟩

section
variable (w : World) (mb : Nat) (own : Nat → Prop) (A : Abs) (h : Rep w mb own A) (gg a b g : Int) (W : Bool)

/-- What done leaves. -/
def DonePost (w : World) (mb : Nat) (own : Nat → Prop) (A : Abs) (s : Asks) (g : Int) (e : Ending) (w' : World) : Prop :=
  ∃ own' A' x y z, e = .returned (.tuple #[.int .i64 x, .int .i64 y, .int .i64 z]) ∧ Rep w' mb own' A' ∧ Left w w' own own' ∧ Did A s g x y z A'

set_option maxHeartbeats 1000000 in
theorem done1_any (w : World) (mb : Nat) (own : Nat → Prop) (A : Abs) (h : Rep w mb own A) (gg a b g : Int) (W : Bool) (ha : In64 a) (hg : In64 g) (hk : A.kn < maxLen) : Calls Try.prog 19 #[pt mb, stV 1 gg a b W, .int .i64 g] w (DonePost w mb own A (asks 1 a b W) g) := by
  have o1 : Only Nob w (w.alloc (.cells #[.int .i64 1, .int .i64 gg, .int .i64 a, .int .i64 b, .bool W] 40)) := (Only.refl _ _).alloc _
  have HP := hid (pick_any (w.alloc (.cells #[.int .i64 1, .int .i64 gg, .int .i64 a, .int .i64 b, .bool W] 40)) a 16 ha.1 ha.2 (by omega) (by omega))
  have HC := hid (absMap (h.nob o1) g (pickI a 16) W hg hk)
  clear h
  go_enter Try.func19, Try.ntmps19
  go_wp2_with fail
  refine HP.out.mono ?_
  rintro e w1 ⟨rfl, rfl⟩
  go_wp2_with fail
  refine HC.out.mono ?_
  rintro e w2 ⟨own', A', rfl, q1, q2, q3, q4⟩
  go_wp2
  refine bodyPost_ret (v := .tuple #[.int .i64 0, .int .i64 0, .int .i64 (A.mapCode g (pickI a 16))]) (by simp [results, Try.results19, go_sem]) rfl ?_
  exact ⟨own', A', 0, 0, _, rfl, q1, leftNob o1 q2, Or.inl ⟨rfl, rfl, rfl, rfl, q3, q4⟩⟩

set_option maxHeartbeats 1000000 in
theorem done2_any (w : World) (mb : Nat) (own : Nat → Prop) (A : Abs) (h : Rep w mb own A) (gg a b g : Int) (W : Bool) (ha : In64 a) (hg : In64 g) (hk : A.kn < maxLen) : Calls Try.prog 19 #[pt mb, stV 2 gg a b W, .int .i64 g] w (DonePost w mb own A (asks 2 a b W) g) := by
  have o1 : Only Nob w (w.alloc (.cells #[.int .i64 2, .int .i64 gg, .int .i64 a, .int .i64 b, .bool W] 40)) := (Only.refl _ _).alloc _
  have HP := hid (pick_any (w.alloc (.cells #[.int .i64 2, .int .i64 gg, .int .i64 a, .int .i64 b, .bool W] 40)) a 16 ha.1 ha.2 (by omega) (by omega))
  have HC := hid (absUnmap (h.nob o1) g (pickI a 16) hg hk)
  clear h
  go_enter Try.func19, Try.ntmps19
  go_wp2_with fail
  refine HP.out.mono ?_
  rintro e w1 ⟨rfl, rfl⟩
  go_wp2_with fail
  refine HC.out.mono ?_
  rintro e w2 ⟨own', A', rfl, q1, q2, q3, q4⟩
  go_wp2
  refine bodyPost_ret (v := .tuple #[.int .i64 0, .int .i64 0, .int .i64 (A.unmapCode g (pickI a 16))]) (by simp [results, Try.results19, go_sem]) rfl ?_
  exact ⟨own', A', 0, 0, _, rfl, q1, leftNob o1 q2, Or.inr (Or.inl ⟨rfl, rfl, rfl, rfl, fun z => (q3 z).imp (fun n hn => hn.1), q4⟩)⟩

set_option maxHeartbeats 1000000 in
theorem done5_any (w : World) (mb : Nat) (own : Nat → Prop) (A : Abs) (h : Rep w mb own A) (gg a b g : Int) (W : Bool) (ha : In64 a) (hg : In64 g) : Calls Try.prog 19 #[pt mb, stV 5 gg a b W, .int .i64 g] w (DonePost w mb own A (asks 5 a b W) g) := by
  have o1 : Only Nob w (w.alloc (.cells #[.int .i64 5, .int .i64 gg, .int .i64 a, .int .i64 b, .bool W] 40)) := (Only.refl _ _).alloc _
  have HP := hid (pick_any (w.alloc (.cells #[.int .i64 5, .int .i64 gg, .int .i64 a, .int .i64 b, .bool W] 40)) a 16 ha.1 ha.2 (by omega) (by omega))
  have hpb := pickI_bd a 16 (by omega)
  have HC := hid (absRoot (h.nob o1) g (pickI a 16 - 1) hg)
  clear h
  go_enter Try.func19, Try.ntmps19
  go_wp2_with fail
  refine HP.out.mono ?_
  rintro e w1 ⟨rfl, rfl⟩
  go_wp2_with fail
  refine HC.out.mono ?_
  rintro e w2 ⟨own', A', rfl, q1, q2, q3, q4⟩
  go_wp2
  refine bodyPost_ret (v := .tuple #[.int .i64 0, .int .i64 0, .int .i64 (A.rootCode g (pickI a 16 - 1))]) (by simp [results, Try.results19, go_sem]) rfl ?_
  exact ⟨own', A', 0, 0, _, rfl, q1, leftNob o1 q2, Or.inr (Or.inr (Or.inr (Or.inr (Or.inl ⟨rfl, rfl, rfl, rfl, q3, q4⟩))))⟩

set_option maxHeartbeats 1000000 in
theorem done7_any (w : World) (mb : Nat) (own : Nat → Prop) (A : Abs) (h : Rep w mb own A) (gg a b g : Int) (W : Bool) (ha : In64 a) (hg : In64 g) (hk : A.kn < maxLen) : Calls Try.prog 19 #[pt mb, stV 7 gg a b W, .int .i64 g] w (DonePost w mb own A (asks 7 a b W) g) := by
  have o1 : Only Nob w (w.alloc (.cells #[.int .i64 7, .int .i64 gg, .int .i64 a, .int .i64 b, .bool W] 40)) := (Only.refl _ _).alloc _
  have HP := hid (fun n hn hn2 => pick_any (w.alloc (.cells #[.int .i64 7, .int .i64 gg, .int .i64 a, .int .i64 b, .bool W] 40)) a n ha.1 ha.2 hn hn2)
  have HC := hid (absRead (h.nob o1) g (pickI a 128) hg hk)
  clear h
  go_enter Try.func19, Try.ntmps19
  go_wp2_with fail
  refine (HP.out 16 (by omega) (by omega)).mono ?_
  rintro e w1 ⟨rfl, rfl⟩
  go_wp2_with fail
  refine (HP.out 128 (by omega) (by omega)).mono ?_
  rintro e w1 ⟨rfl, rfl⟩
  go_wp2_with fail
  refine HC.out.mono ?_
  rintro e w2 ⟨own', A', rfl, q1, q2, q3⟩
  go_wp2
  refine bodyPost_ret (v := .tuple #[.int .i64 (A.readAt g (pickI a 128)).1, .int .i64 0, .int .i64 (A.readAt g (pickI a 128)).2]) (by simp [results, Try.results19, go_sem]) rfl ?_
  exact ⟨own', A', _, 0, _, rfl, q1, leftNob o1 q2, Or.inr (Or.inr (Or.inr (Or.inr (Or.inr (Or.inr (Or.inl ⟨rfl, rfl, rfl, rfl, q3⟩))))))⟩

end
end Go.Proofs.Ytfcepnhknmbaaaa
