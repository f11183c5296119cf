/- The contracts of package tables, the rest: Enter, End, NewSpace; and memory's New. -/
import Derived.Test.YtfcepnhknmbaaaaTabWalksB
namespace Go.Proofs.Ytfcepnhknmbaaaa
open Go.RowKit Go.Deep

def Mm.entered (M : Mm) (r p f : Nat) (b : Bool) : Mm := M.setW (numb (M.tbl r p)) (p % 8) (entryOf f b)
def Mm.tabled (M : Mm) (r p t : Nat) : Mm := (M.take t).setW r (p / 8) (entryOf t true)

theorem tabled_tbl (M : Mm) (r p t : Nat) : (M.tabled r p t).tbl r p = entryOf t true := by
  simp [Mm.tabled, Mm.tbl, Mm.setW, upd2]

theorem firstFree_lt (U : Nat → Int) : ∀ (f k i : Nat), firstFree U k f = some i → k ≤ i ∧ i < k + f ∧ U i = 0
  | 0, k, i, h => by cases h
  | f + 1, k, i, h => by
    simp only [firstFree] at h
    split at h
    · rename_i hu
      have e : k = i := by simpa using h
      subst e
      exact ⟨by omega, by omega, hu⟩
    · have := firstFree_lt U f (k + 1) i h
      exact ⟨by omega, by omega, this.2.2⟩
theorem first_lt {M : Mm} {i : Nat} (h : M.first = some i) : i < M.n ∧ M.U i = 0 := by
  have := firstFree_lt M.U M.n 0 i h
  exact ⟨by omega, this.2.2⟩

set_option maxHeartbeats 1000000 in
theorem enterHad_any {mp fb : Nat} {M : Mm} (w : World) (r : Nat) (p : Int) (f : Nat) (b : Bool) (hM : Mem w mp fb M) (h0 : 0 ≤ p) (h1 : p < 64) (hr : r < M.n) (hf : f ≤ 63)
  (hp : pres (M.tbl r p.toNat) = true) (ht : numb (M.tbl r p.toNat) < M.n) :
    Calls Try.prog 39 #[sp mp r, .int .i64 p, .int .i64 f, .bool b] w fun e w' => e = .returned (.tuple #[]) ∧ Mem w' mp fb (M.entered r p.toNat f b) ∧ Only (One fb) w w' := by
  have hle := hM.le
  have hlt := hM.row_lt
  have hb2 := entryOf_bd f b hf
  go_enter Try.func39, Try.ntmps39
  go_wp2_with fail
  refine (missing_any (mp := mp) (fb := fb) (M := M) _ r p (hM.alloc _) hr h0 h1).mono ?_
  rintro e w1 ⟨rfl, ho⟩
  rw [hp]
  have hc0 := ho.laid (fun h => h) 0
  have hc1 := ho.laid (fun h => h) 1
  obtain ⟨hM1, hO1⟩ := hM.behind ho
  clear ho
  go_wp2_with fail
  go_region_with (first
    | (go_at_call 65; refine (newEntry_any _ f hf b).mono ?_; rintro e w' ⟨rfl, rfl⟩)
    | (go_at_call 61; refine (setEntry_any (mp := mp) (fb := fb) (M := M) _ r p _ hM1.drew hr h0 h1 hb2.1 hb2.2 ht).mono ?_; rintro e w2 ⟨rfl, hM2, ho2⟩))
  all_goals
    go_end0
    exact ⟨rfl, hM2, (hO1.of_nob (S := One fb)).drew.trans ho2⟩

set_option maxHeartbeats 1000000 in
theorem enterNew_any {mp fb : Nat} {M : Mm} (w : World) (r : Nat) (p : Int) (f t : Nat) (b : Bool) (hM : Mem w mp fb M) (h0 : 0 ≤ p) (h1 : p < 64) (hr : r < M.n) (hf : f ≤ 63)
  (hp : pres (M.tbl r p.toNat) = false) (ht : M.first = some t) :
    Calls Try.prog 39 #[sp mp r, .int .i64 p, .int .i64 f, .bool b] w fun e w' => e = .returned (.tuple #[]) ∧ Mem w' mp fb ((M.tabled r p.toNat t).entered r p.toNat f b) ∧ Only (One fb) w w' := by
  have hle := hM.le
  have hlt := hM.row_lt
  have hb2 := entryOf_bd f b hf
  have htn := (first_lt ht).1
  have hb3 := entryOf_bd t true (by omega)
  have HT := hid ht
  clear ht
  go_enter Try.func39, Try.ntmps39
  go_wp2_with fail
  refine (missing_any (mp := mp) (fb := fb) (M := M) _ r p (hM.alloc _) hr h0 h1).mono ?_
  rintro e w1 ⟨rfl, ho⟩
  rw [hp]
  have hc0 := ho.laid (fun h => h) 0
  have hc1 := ho.laid (fun h => h) 1
  obtain ⟨hM1, hO1⟩ := hM.behind ho
  have hsz : w.heap.size < w1.heap.size := World.block_lt_of_cell? _ _ hc0
  clear ho
  go_wp2_with fail
  go_cut [] (fun wx => Mem wx mp fb (M.tabled r p.toNat t) ∧ Only (One fb) w wx ∧ wx.cell? ⟨w.heap.size, 0, none⟩ = some (pt mp) ∧ wx.cell? ⟨w.heap.size, 1, none⟩ = some (.int .i64 r))
  case first =>
    go_region_with (first
      | (go_at_call 40; refine (take_any (mp := mp) (fb := fb) (M := M) _ t hM1.drew HT.out).mono ?_; rintro e w2 ⟨rfl, hM2, ho2⟩; have hd0 := ho2.keep (fun h => by simp [One] at h; omega) hc0; have hd1 := ho2.keep (fun h => by simp [One] at h; omega) hc1)
      | (go_at_call 65; refine (newEntry_any _ t (by omega) true).mono ?_; rintro e w' ⟨rfl, rfl⟩)
      | (go_at_call 64; refine (setTable_any (mp := mp) (fb := fb) (M := M.take t) _ r p _ hM2 hr h0 h1 hb3.1 hb3.2).mono ?_; rintro e w3 ⟨rfl, hM3, ho3⟩))
    all_goals
      go_wp2_with fail
      go_meet
      case rel =>
        exact ⟨hM3, ((hO1.of_nob (S := One fb)).drew.trans ho2).trans ho3, ho3.keep (fun h => by simp [One] at h; omega) hd0, ho3.keep (fun h => by simp [One] at h; omega) hd1⟩
  case rest =>
    obtain ⟨hMc, hOc, hc0c, hc1c⟩ := hcut
    clear hc0 hc1 hM1 hO1
    have HB := hid (tabled_tbl M r p.toNat t)
    have hnt : numb ((M.tabled r p.toNat t).tbl r p.toNat) < M.n := by rw [HB.out, numb_entryOf t true (by omega)]; exact htn
    go_wp2_with fail
    go_region_with (first
      | (go_at_call 65; refine (newEntry_any _ f hf b).mono ?_; rintro e w' ⟨rfl, rfl⟩)
      | (go_at_call 61; refine (setEntry_any (mp := mp) (fb := fb) (M := M.tabled r p.toNat t) _ r p _ hMc.drew hr h0 h1 hb2.1 hb2.2 hnt).mono ?_; rintro e w5 ⟨rfl, hM5, ho5⟩))
    all_goals
      go_end0
      exact ⟨rfl, hM5, hOc.drew.trans ho5⟩

def Mm.endTo (M : Mm) (r : Nat) : Nat → Mm
  | 0 => M
  | k + 1 => (M.endTo r k).remove r k

def Mm.ended (M : Mm) (r : Nat) : Mm := M.endTo r 64

theorem remove_n (M : Mm) (r p : Nat) : (M.remove r p).n = M.n := by
  simp only [Mm.remove]; split
  · split <;> rfl
  · rfl
theorem endTo_n (M : Mm) (r k : Nat) : (M.endTo r k).n = M.n := by
  induction k with
  | zero => rfl
  | succ k ih => simp only [Mm.endTo]; rw [remove_n]; exact ih

set_option maxRecDepth 100000 in
set_option maxHeartbeats 1000000 in
theorem end_any {mp fb : Nat} {M : Mm} (w : World) (r : Nat) (hM : Mem w mp fb M) (hr : r < M.n) (hS : ∀ k, k < 64 → Sound (M.endTo r k) r k) (hU : 1 ≤ (M.ended r).U r) :
    Calls Try.prog 41 #[sp mp r] w fun e w' => e = .returned (.tuple #[]) ∧ Mem w' mp fb ((M.ended r).unuse r) ∧ Only (One fb) w w' := by
  have hle := hM.le
  have hlt := hM.row_lt
  have HS := hid hS
  have HN : Hid ((M.ended r).n = M.n) := endTo_n M r 64
  clear hS
  go_enter Try.func41, Try.ntmps41
  go_wp2
  go_loopw [3] (fun c wr => ∃ k : Nat, k ≤ 64 ∧ c = .int .i64 k ∧ Mem wr mp fb (M.endTo r k) ∧ Only (One fb) w wr ∧ wr.cell? ⟨w.heap.size, 0, none⟩ = some (pt mp) ∧ wr.cell? ⟨w.heap.size, 1, none⟩ = some (.int .i64 r)) (fun c _ => 64 - (intOf c).toNat)
  case atStart => exact ⟨0, by omega, rfl, hM.alloc _, (Only.refl _ _).alloc _, by simp, by simp⟩
  case round =>
    obtain ⟨k, hk, rfl, hMk, hOk, hc0, hc1⟩ := hrel
    by_cases hlt2 : k < 64
    · have hSk := HS.out k hlt2
      go_wp2_with fail
      refine (remove_any (mp := mp) (fb := fb) (M := M.endTo r k) _ r _ hMk (by omega) (by omega) (by rw [Int.toNat_natCast]; exact hSk)).mono ?_
      rintro e w1 ⟨rfl, hM1, ho1⟩
      rw [Int.toNat_natCast] at hM1
      have hsz := World.block_lt_of_cell? _ _ hc0
      have hd0 := ho1.keep (fun h => by simp [One] at h; omega) hc0
      have hd1 := ho1.keep (fun h => by simp [One] at h; omega) hc1
      go_wp2_with fail
      go_roundw
      case rel => exact ⟨k + 1, by omega, by go_num, hM1, hOk.trans ho1, hd0, hd1⟩
      case measure => simp [intOf]; omega
    · have e64 : k = 64 := by omega
      have hMe : Mem wr mp fb (M.ended r) := by rw [e64] at hMk; exact hMk
      clear hMk e64
      go_wp2_with fail
      refine (release_any (mp := mp) (fb := fb) (M := M.ended r) _ _ hMe (by omega) (by rw [HN.out]; omega) (by rw [Int.toNat_natCast]; exact hU)).mono ?_
      rintro e w1 ⟨rfl, hM1, ho1⟩
      rw [Int.toNat_natCast] at hM1
      go_wp2_with fail
      go_end0
      exact ⟨rfl, hM1, hOk.trans ho1⟩

theorem frame_info : (Try.prog.info? 120).map (fun i => (i.zero, i.size, i.bytes)) = some (some (.agg #[.int .u16 0, .int .u16 0, .int .u16 0, .int .u16 0, .int .u16 0, .int .u16 0, .int .u16 0, .int .u16 0, .int .i64 0]), 9, 24) := by kernel_rfl

def Mm.fresh (n : Nat) : Mm := ⟨n, fun _ _ => 0, fun _ => 0⟩

theorem made_cell (n j : Nat) (h : j < n * 9) : (madeCells #[.int .u16 0, .int .u16 0, .int .u16 0, .int .u16 0, .int .u16 0, .int .u16 0, .int .u16 0, .int .u16 0, .int .i64 0] (n * 9))[j]? = some (cellOf (Mm.fresh n) j) := by
  simp only [madeCells, Array.getElem?_map, Array.getElem?_range, h, if_true, Option.map_some, cellOf, Mm.fresh]
  have e : j % 9 = 0 ∨ j % 9 = 1 ∨ j % 9 = 2 ∨ j % 9 = 3 ∨ j % 9 = 4 ∨ j % 9 = 5 ∨ j % 9 = 6 ∨ j % 9 = 7 ∨ j % 9 = 8 := by omega
  show some ((#[.int .u16 0, .int .u16 0, .int .u16 0, .int .u16 0, .int .u16 0, .int .u16 0, .int .u16 0, .int .u16 0, .int .i64 0] : Array Value)[j % 9]!) = _
  rcases e with e | e | e | e | e | e | e | e | e <;> rw [e] <;> rfl

set_option maxHeartbeats 400000 in
theorem memNew_any (w : World) (n : Int) (h0 : 0 ≤ n) (h1 : n ≤ 64) :
    Calls Try.prog 56 #[.int .i64 n] w fun e w' => ∃ mp fb, e = .returned (pt mp) ∧ w.heap.size ≤ mp ∧ w.heap.size ≤ fb ∧ Mem w' mp fb (Mm.fresh n.toNat) ∧ Only Nob w w' := by
  obtain ⟨i, hi, hzz⟩ := Option.map_eq_some_iff.1 frame_info
  simp only [Prod.mk.injEq] at hzz
  obtain ⟨hz, hs, hb⟩ := hzz
  have hmk := fun w => run_make (P := Try.prog) w 116 120 i _ Try.underlying116 hi hz .i64 .i64 n n h0 (Int.le_refl _) (by rw [hb]; omega) (by omega)
  rw [hs] at hmk
  clear hi hz hs hb
  go_enter Try.func56, Try.ntmps56
  go_wp2
  go_ret
  refine ⟨w.heap.size + 1, w.heap.size, rfl, by omega, Nat.le_refl _, ?_, ((Only.refl _ _).alloc _).alloc _⟩
  have r0 := World.rowIs_alloc w (madeCells #[.int .u16 0, .int .u16 0, .int .u16 0, .int .u16 0, .int .u16 0, .int .u16 0, .int .u16 0, .int .u16 0, .int .i64 0] (n.toNat * 9)) 120 (cellOf (Mm.fresh n.toNat)) (fun j hj => made_cell _ j (by rw [size_madeCells] at hj; exact hj))
  rw [size_madeCells] at r0
  refine ⟨⟨118, ?_⟩, ⟨120, r0.alloc _⟩, by omega, by show n.toNat ≤ 64; omega, fun _ _ => by simp [Mm.fresh], fun _ => by simp [Mm.fresh]⟩
  have r1 := World.rowIs_alloc (w.alloc (.cells (madeCells #[.int .u16 0, .int .u16 0, .int .u16 0, .int .u16 0, .int .u16 0, .int .u16 0, .int .u16 0, .int .u16 0, .int .i64 0] (n.toNat * 9)) 120)) #[.slice (some ⟨w.heap.size, 0, none⟩) n.toNat n.toNat] 118 (fun _ => .slice (some ⟨w.heap.size, 0, none⟩) n.toNat n.toNat) (fun j hj => by
    have : j = 0 := by simpa using hj
    subst this
    rfl)
  rw [World.size_alloc] at r1
  exact r1

set_option maxHeartbeats 400000 in
theorem newSpace_any {mp fb : Nat} {M : Mm} (w : World) (i : Nat) (hM : Mem w mp fb M) (hi : M.first = some i) :
    Calls Try.prog 80 #[pt mp] w fun e w' => e = .returned (sp mp i) ∧ Mem w' mp fb (M.take i) ∧ Only (One fb) w w' := by
  have HI := hid hi
  have hlt := hM.row_lt
  clear hi
  go_enter Try.func80, Try.ntmps80
  go_wp2_with fail
  refine (take_any (mp := mp) (fb := fb) (M := M) _ i (hM.alloc _) HI.out).mono ?_
  rintro e w1 ⟨rfl, hM1, ho1⟩
  have hc0 := ho1.laid (fun h => by simp [One] at h; omega) 0
  have hc1 := ho1.laid (fun h => by simp [One] at h; omega) 1
  have hf0 := ho1.frozen (p := ⟨w.heap.size, 0, none⟩) (by simp) (fun h => by simp [One] at h; omega)
  have hf1 := ho1.frozen (p := ⟨w.heap.size, 1, none⟩) (by simp) (fun h => by simp [One] at h; omega)
  rw [World.frozen?_alloc_new] at hf0 hf1
  go_wp2_with fail
  have hm1 : mp < w.heap.size := hM.ptr_lt
  refine bodyPost_ret (v := sp mp i) (by simp [results, Try.results80, go_sem, hc0, hc1]) rfl ⟨rfl, (hM1.setCell (by simp; omega) (by simp; omega) _).setCell (by simp; omega) (by simp; omega) _, ?_⟩
  have ha := ((Only.refl (One fb) w).alloc _).trans ho1
  exact (ha.setCell (p := ⟨w.heap.size, 0, none⟩) (fun h => by simp at h) _).setCell (p := ⟨w.heap.size, 1, none⟩) (fun h => by simp at h) _
end Go.Proofs.Ytfcepnhknmbaaaa
