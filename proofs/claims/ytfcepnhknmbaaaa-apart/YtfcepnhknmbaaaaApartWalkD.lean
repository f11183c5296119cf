/- The law Apart: done, Store. -/
import Derived.Test.YtfcepnhknmbaaaaApartWalk
namespace Go.Proofs.Ytfcepnhknmbaaaa
open Go.RowKit Go.Deep

theorem rowZ (w : World) (B : Nat) (h : B = w.heap.size) : (w.alloc (.cells #[.int .i64 0, .int .i64 0] 47)).rowIs B 47 2 (fun _ => .int .i64 0) := by
  subst h
  exact World.rowIs_alloc w #[.int .i64 0, .int .i64 0] 47 (fun _ => .int .i64 0) (fun i hi => by
    have hi : i < 2 := hi
    have e : i = 0 ∨ i = 1 := by omega
    rcases e with e | e <;> subst e <;> rfl)

theorem sto {w w5 w4 : World} {own own' : Nat → Prop} {mb B : Nat} {A' : Abs} {t : TypeId} {f : Nat → Value} (o : Only Nob w w5) (hB : w.heap.size ≤ B) (hB5 : B < w5.heap.size) (ho : ∀ b, own b → b < w.heap.size)
    (q1 : Rep w4 mb own' A') (q2 : Left w5 w4 own own') (r : w4.rowIs B t 2 f) (x y : Value) : Rep ((w4.setCell ⟨B, 0, none⟩ x).setCell ⟨B, 1, none⟩ y) mb own' A' ∧ Left w ((w4.setCell ⟨B, 0, none⟩ x).setCell ⟨B, 1, none⟩ y) own own' ∧
      ((w4.setCell ⟨B, 0, none⟩ x).setCell ⟨B, 1, none⟩ y).cell? ⟨B, 0, none⟩ = some x ∧ ((w4.setCell ⟨B, 0, none⟩ x).setCell ⟨B, 1, none⟩ y).cell? ⟨B, 1, none⟩ = some y := by
  have o2 : Only (One B) w4 ((w4.setCell ⟨B, 0, none⟩ x).setCell ⟨B, 1, none⟩ y) := ((Only.refl _ _).setOne 0 x).setOne 1 y
  have l := leftNob o q2
  have c0 := r.cell (i := 0) (by omega)
  have c1 := r.cell (i := 1) (by omega)
  refine ⟨q1.only o2 (fun b hb e => ?_), ⟨l.only.after o2 (fun b hb e => ?_), l.ext⟩, ?_, ?_⟩
  · have e : b = B := e
    rcases q2.ext b hb with q | q
    · have := ho b q
      omega
    · omega
  · have e : b = B := e
    omega
  · have h10 : (⟨B, 1, none⟩ : Addr) ≠ ⟨B, 0, none⟩ := fun e => by injection e with _ e _; omega
    rw [World.cell?_setCell_other _ _ _ _ h10, World.cell?_setCell_same _ _ _ c0]
  · have h01 : (⟨B, 0, none⟩ : Addr) ≠ ⟨B, 1, none⟩ := fun e => by injection e with _ e _; omega
    exact World.cell?_setCell_same _ _ _ ((World.cell?_setCell_other _ _ _ _ h01).trans c1)

section
variable (w : World) (mb : Nat) (own : Nat → Prop) (A : Abs) (h : Rep w mb own A) (gg a b g : Int) (W : Bool)

set_option maxRecDepth 100000 in
set_option maxHeartbeats 4000000 in
theorem done4_any (w : World) (mb : Nat) (own : Nat → Prop) (A : Abs) (h : Rep w mb own A) (gg a b g : Int) (W : Bool) (ha : In64 a) (hb : In64 b) (hg : In64 g) (hk : A.kn + 3 < maxLen) : Calls Try.prog 19 #[pt mb, stV 4 gg a b W, .int .i64 g] w (DonePost w mb own A (asks 4 a b W) g) := by
  have o1 : Only Nob w (w.alloc (.cells #[.int .i64 4, .int .i64 gg, .int .i64 a, .int .i64 b, .bool W] 40)) := (Only.refl _ _).alloc _
  have HP := hid (fun w n hn hn2 => pick_any w a n ha.1 ha.2 hn hn2)
  have HC := hid (fun w1 (o : Only Nob (w.alloc (.cells #[.int .i64 4, .int .i64 gg, .int .i64 a, .int .i64 b, .bool W] 40)) w1) => absStore ((h.nob o1).nob o) g (pickI a 128) (wordI b) hg hk)
  have HW := hid (fun w1 => word46_any w1 4 gg a b W hb)
  have HO := hid (fun b (hb : own b) => h.own_lt hb)
  clear h
  go_enter Try.func19, Try.ntmps19
  go_wp2_with fail
  refine (HP.out _ 16 (by omega) (by omega)).mono ?_
  rintro e w1 ⟨rfl, rfl⟩
  go_wp2_with fail
  go_cut [13, 14] (fun c1 c2 wx => ∃ own' A' B, c1 = .pointer (some ⟨B, 0, none⟩) ∧ c2 = .int .i64 (A.storeAt g (pickI a 128) (wordI b)).2.2 ∧ Rep wx mb own' A' ∧ Left w wx own own' ∧
    wx.cell? ⟨B, 0, none⟩ = some (.int .i64 (A.storeAt g (pickI a 128) (wordI b)).1) ∧ wx.cell? ⟨B, 1, none⟩ = some (.int .i64 (A.storeAt g (pickI a 128) (wordI b)).2.1) ∧
    (A.stores g (pickI a 128) (wordI b) = true → A' = A.stored (A.turned g ((pickI a 128).toNat / 8) true).1 ((pickI a 128).toNat % 8) (wordI b) ∧ ∃ q b, q < 64 ∧ A.pg g q = some ((A.turned g ((pickI a 128).toNat / 8) true).1, b)) ∧ (A.stores g (pickI a 128) (wordI b) = false → A' = A.up 3))
  case first =>
    go_region_with (first
      | (go_at_call 11; refine (HP.out _ 128 (by omega) (by omega)).mono ?_; rintro e w' ⟨rfl, rfl⟩)
      | (go_at_call 48; refine (HW.out _).mono ?_; rintro e w3 ⟨rfl, o3⟩)
      | (go_at_call 22; refine (HC.out _ ?_).mono ?_; exact (((Only.refl Nob _).drew).trans o3); rintro e w4 ⟨own', A', rfl, q1, q2, q3, q4⟩)
      | (go_at_call 22; refine (HC.out _ ?_).mono ?_; exact (((Only.refl Nob _).drew).trans o3).alloc _; rintro e w4 ⟨own', A', rfl, q1, q2, q3, q4⟩; have r := q2.only.row (rowZ w3 _ rfl) (fun q => absurd (HO.out _ q) (Nat.not_lt.2 (Nat.le_trans o1.size o3.size))); have c0 := r.cell (i := 0) (by omega); have c1 := r.cell (i := 1) (by omega); have c2 := r.lt; have f0 := r.frozen 0; have f1 := r.frozen 1)
      | (go_at_call 22; refine (HC.out _ ?_).mono ?_; exact (((Only.refl Nob _).drew).alloc _).trans o3; rintro e w4 ⟨own', A', rfl, q1, q2, q3, q4⟩; have r := q2.only.row (o3.row (rowZ _ (w.heap.size + 1) (by simp)) (fun q => q)) (fun q => absurd (HO.out _ q) (Nat.not_lt.2 (Nat.le_succ _))); have c0 := r.cell (i := 0) (by omega); have c1 := r.cell (i := 1) (by omega); have c2 := r.lt; have f0 := r.frozen 0; have f1 := r.frozen 1)
      | (go_at_call 22; refine (HC.out _ ?_).mono ?_; exact (((Only.refl Nob _).alloc _).drew).trans o3; rintro e w4 ⟨own', A', rfl, q1, q2, q3, q4⟩; have r := q2.only.row (o3.row ((rowZ _ (w.heap.size + 1) (by simp)).drew) (fun q => q)) (fun q => absurd (HO.out _ q) (Nat.not_lt.2 (Nat.le_succ _))); have c0 := r.cell (i := 0) (by omega); have c1 := r.cell (i := 1) (by omega); have c2 := r.lt; have f0 := r.frozen 0; have f1 := r.frozen 1))
    all_goals
      go_wp2_with fail
      go_meet
      case rel =>
        first
        | exact ⟨own', A', w4.heap.size, rfl, rfl, q1.nob ((Only.refl _ _).alloc _), leftThen (leftNob (o1.trans (((Only.refl Nob _).drew).trans o3)) q2) ((Only.refl _ _).alloc _), by simp, by simp, q3, q4⟩
        | (have hs := sto (o1.trans ((((Only.refl Nob _).drew).trans o3).alloc _)) (B := w3.heap.size) (Nat.le_trans o1.size o3.size) (by simp) HO.out q1 q2 r (.int .i64 (A.storeAt g (pickI a 128) (wordI b)).1) (.int .i64 (A.storeAt g (pickI a 128) (wordI b)).2.1)
           exact ⟨own', A', w3.heap.size, rfl, rfl, hs.1, hs.2.1, hs.2.2.1, hs.2.2.2, q3, q4⟩)
        | (have hs := sto (o1.trans ((((Only.refl Nob _).drew).alloc _).trans o3)) (B := w.heap.size + 1) (Nat.le_succ _) (Nat.lt_of_lt_of_le (by simp) o3.size) HO.out q1 q2 r (.int .i64 (A.storeAt g (pickI a 128) (wordI b)).1) (.int .i64 (A.storeAt g (pickI a 128) (wordI b)).2.1)
           exact ⟨own', A', w.heap.size + 1, rfl, rfl, hs.1, hs.2.1, hs.2.2.1, hs.2.2.2, q3, q4⟩)
        | (have hs := sto (o1.trans ((((Only.refl Nob _).alloc _).drew).trans o3)) (B := w.heap.size + 1) (Nat.le_succ _) (Nat.lt_of_lt_of_le (by simp) o3.size) HO.out q1 q2 r (.int .i64 (A.storeAt g (pickI a 128) (wordI b)).1) (.int .i64 (A.storeAt g (pickI a 128) (wordI b)).2.1)
           exact ⟨own', A', w.heap.size + 1, rfl, rfl, hs.1, hs.2.1, hs.2.2.1, hs.2.2.2, q3, q4⟩)
  case rest =>
    obtain ⟨own', A', B, rfl, rfl, q1, q2, c0, c1, q3, q4⟩ := hcut
    have HQ3 := hid q3
    have HQ4 := hid q4
    clear q3 q4
    go_wp2_with fail
    go_quiet (fail)
    go_wp2
    refine bodyPost_ret (v := .tuple #[.int .i64 (A.storeAt g (pickI a 128) (wordI b)).1, .int .i64 (A.storeAt g (pickI a 128) (wordI b)).2.1, .int .i64 (A.storeAt g (pickI a 128) (wordI b)).2.2]) (by simp [results, Try.results19, go_sem]) rfl ?_
    exact ⟨own', A', _, _, _, rfl, q1.nob ((Only.refl _ _).drewN _), leftThen q2 ((Only.refl _ _).drewN _), Or.inr (Or.inr (Or.inr (Or.inl ⟨rfl, rfl, rfl, rfl, HQ3.out, HQ4.out⟩)))⟩
end
end Go.Proofs.Ytfcepnhknmbaaaa
