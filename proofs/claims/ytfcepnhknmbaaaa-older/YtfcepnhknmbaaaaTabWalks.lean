/- The contracts of package tables (its entries; a space's table, Walk, Missing, setTable, setEntry, groupEmpty): what each answers and what becomes of the frames. -/
import Derived.Test.YtfcepnhknmbaaaaMemWalks
namespace Go.Proofs.Ytfcepnhknmbaaaa
open Go.RowKit Go.Deep

def pres (x : Int) : Bool := x % 2 == 1
def wrib (x : Int) : Bool := x / 2 % 2 == 1
def numb (x : Int) : Nat := (x / 4 % 64).toNat
def entryOf (f : Nat) (b : Bool) : Int := 1 + 4 * f + if b then 2 else 0

theorem bits_pres (x : Int) (h0 : 0 ≤ x) (h1 : x ≤ 65535) : (bits BinOp.and IntKind.u16 x 1 != 0) = pres x := by
  rw [u16_and x 1 h0 (by omega) (by omega) (by omega)]
  rw [show (1 : Int).toNat = 1 from rfl, nat_mask1]
  simp only [pres]
  rw [Bool.eq_iff_iff]; simp; omega

theorem bits_wri (x : Int) (h0 : 0 ≤ x) (h1 : x ≤ 65535) : (bits BinOp.and IntKind.u16 x 2 != 0) = wrib x := by
  rw [u16_and x 2 h0 (by omega) (by omega) (by omega)]
  rw [show (2 : Int).toNat = 2 ^ 1 from rfl, nat_bit]
  simp only [wrib]
  rw [Bool.eq_iff_iff]; simp; omega

theorem bits_63 (n : Int) : bits BinOp.and IntKind.i64 n 63 = n % 64 := by
  have h63 : (BitVec.ofInt 64 63).toNat = 2 ^ 6 - 1 := by decide
  have key : (BitVec.ofInt 64 n &&& BitVec.ofInt 64 63).toNat = (n % ((2 ^ 64 : Nat) : Int)).toNat % 2 ^ 6 := by
    rw [BitVec.toNat_and, BitVec.toNat_ofInt, h63, Nat.and_two_pow_sub_one_eq_mod]
  show IntKind.i64.wrap ((BitVec.ofInt 64 n &&& BitVec.ofInt 64 63).toNat : Nat) = n % 64
  rw [key, IntKind.wrap_i64]
  omega

theorem bits_new (f : Nat) (h1 : f ≤ 63) : bits BinOp.or IntKind.u16 1 (IntKind.u16.wrap (IntKind.u16.wrap (bits BinOp.and IntKind.i64 f 63) * 4)) = entryOf f false ∧ bits BinOp.or IntKind.u16 (bits BinOp.or IntKind.u16 1 (IntKind.u16.wrap (IntKind.u16.wrap (bits BinOp.and IntKind.i64 f 63) * 4))) 2 = entryOf f true := by
  have h : ∀ f : Fin 64, bits BinOp.or IntKind.u16 1 (IntKind.u16.wrap (IntKind.u16.wrap (bits BinOp.and IntKind.i64 f.val 63) * 4)) = entryOf f.val false ∧ bits BinOp.or IntKind.u16 (bits BinOp.or IntKind.u16 1 (IntKind.u16.wrap (IntKind.u16.wrap (bits BinOp.and IntKind.i64 f.val 63) * 4))) 2 = entryOf f.val true := by
    decide +kernel
  exact h ⟨f, by omega⟩

theorem entryOf_bd (f : Nat) (b : Bool) (h : f ≤ 63) : 0 ≤ entryOf f b ∧ entryOf f b ≤ 65535 := by
  simp only [entryOf]; split <;> omega
theorem pres_entryOf (f : Nat) (b : Bool) : pres (entryOf f b) = true := by
  simp only [entryOf, pres, beq_iff_eq]; split <;> omega
theorem wrib_entryOf (f : Nat) (b : Bool) : wrib (entryOf f b) = b := by
  cases b <;> simp [entryOf, wrib] <;> omega
theorem numb_entryOf (f : Nat) (b : Bool) (h : f ≤ 63) : numb (entryOf f b) = f := by
  simp only [entryOf, numb]; split <;> omega
theorem numb_lt (x : Int) : numb x ≤ 63 := by simp only [numb]; omega
theorem pres_zero : pres 0 = false := rfl

set_option maxHeartbeats 400000 in
theorem present_any (w : World) (x : Int) (h0 : 0 ≤ x) (h1 : x ≤ 65535) :
    Calls Try.prog 34 #[.int .u16 x] w fun e w' => e = .returned (.bool (pres x)) ∧ w = w' := by
  go_enter Try.func34, Try.ntmps34
  go_wp2
  go_ret
  refine ⟨?_, rfl⟩
  show Ending.returned (.bool _) = _
  rw [bits_pres x h0 h1]

set_option maxHeartbeats 400000 in
theorem writable_any (w : World) (x : Int) (h0 : 0 ≤ x) (h1 : x ≤ 65535) :
    Calls Try.prog 44 #[.int .u16 x] w fun e w' => e = .returned (.bool (wrib x)) ∧ w = w' := by
  go_enter Try.func44, Try.ntmps44
  go_wp2
  go_ret
  refine ⟨?_, rfl⟩
  show Ending.returned (.bool _) = _
  rw [bits_wri x h0 h1]

set_option maxHeartbeats 400000 in
theorem number_any (w : World) (x : Int) (h0 : 0 ≤ x) (h1 : x ≤ 65535) :
    Calls Try.prog 50 #[.int .u16 x] w fun e w' => e = .returned (.int .i64 (numb x)) ∧ w = w' := by
  go_enter Try.func50, Try.ntmps50
  go_wp2
  go_ret
  refine ⟨?_, rfl⟩
  show Ending.returned (.int .i64 _) = _
  rw [bits_63]
  exact ret_int (by simp only [numb]; omega)

set_option maxHeartbeats 400000 in
theorem newEntry_any (w : World) (f : Nat) (h1 : f ≤ 63) (b : Bool) :
    Calls Try.prog 65 #[.int .i64 f, .bool b] w fun e w' => e = .returned (.int .u16 (entryOf f b)) ∧ w = w' := by
  have hn := bits_new f h1
  cases b
  · have H := hid hn.1
    clear hn
    go_enter Try.func65, Try.ntmps65
    go_wp2
    go_ret
    exact ⟨ret_int H.out, rfl⟩
  · have H := hid hn.2
    clear hn
    go_enter Try.func65, Try.ntmps65
    go_wp2
    go_ret
    exact ⟨ret_int H.out, rfl⟩

/-- A space: its memory, its root. -/
abbrev sp (mp r : Nat) : Value := .agg #[pt mp, .int .i64 r]

def Mm.tbl (M : Mm) (r p : Nat) : Int := M.W r (p / 8)
def Mm.ent (M : Mm) (r p : Nat) : Int := if pres (M.tbl r p) then M.W (numb (M.tbl r p)) (p % 8) else M.tbl r p

set_option maxHeartbeats 400000 in
theorem table_any {mp fb : Nat} {M : Mm} (w : World) (r : Nat) (p : Int) (hM : Mem w mp fb M) (hr : r < M.n) (h0 : 0 ≤ p) (h1 : p < 64) :
    Calls Try.prog 63 #[sp mp r, .int .i64 p] w fun e w' => e = .returned (.int .u16 (M.tbl r p.toNat)) ∧ Only Nob w w' := by
  have hle := hM.le
  go_enter Try.func63, Try.ntmps63
  go_wp2_with (go_at_call 67; refine (word_any _ _ _ (hM.alloc _) (by omega) (by omega) (by omega) (by omega)).mono ?_; rintro e w' ⟨rfl, rfl⟩)
  go_ret
  refine ⟨?_, (Only.refl _ _).alloc _⟩
  show Ending.returned (.int .u16 _) = _
  refine ret_int ?_
  simp only [Mm.tbl]
  congr 1
  omega

set_option maxHeartbeats 400000 in
theorem walk_any {mp fb : Nat} {M : Mm} (w : World) (r : Nat) (p : Int) (hM : Mem w mp fb M) (hr : r < M.n) (h0 : 0 ≤ p) (h1 : p < 64)
  (ht : pres (M.tbl r p.toNat) = true → numb (M.tbl r p.toNat) < M.n) :
    Calls Try.prog 58 #[sp mp r, .int .i64 p] w fun e w' => e = .returned (.int .u16 (M.ent r p.toNat)) ∧ Only Nob w w' := by
  have hle := hM.le
  have hb : 0 ≤ M.tbl r p.toNat ∧ M.tbl r p.toNat ≤ 65535 := hM.wb r (p.toNat / 8)
  cases hx : pres (M.tbl r p.toNat)
  · have HE := hid (show M.ent r p.toNat = M.tbl r p.toNat by simp only [Mm.ent, hx]; rfl)
    clear ht
    go_enter Try.func58, Try.ntmps58
    go_wp2_with fail
    refine (table_any (M := M) _ r p (hM.alloc _) hr h0 h1).mono ?_
    rintro e w1 ⟨rfl, ho⟩
    go_wp2_with (go_at_call 34; refine (present_any _ _ hb.1 hb.2).mono ?_; rintro e w' ⟨rfl, rfl⟩)
    go_ret
    exact ⟨by rw [HE.out]; rfl, (Only.refl Nob w).alloc _ |>.trans ho⟩
  · have HE := hid (show M.ent r p.toNat = M.W (numb (M.tbl r p.toNat)) (p.toNat % 8) by simp only [Mm.ent, hx]; rfl)
    have hn := ht hx
    clear ht
    go_enter Try.func58, Try.ntmps58
    go_wp2_with fail
    refine (table_any (M := M) _ r p (hM.alloc _) hr h0 h1).mono ?_
    rintro e w1 ⟨rfl, ho⟩
    have hc0 := ho.laid (fun h => h) 0
    have hM1 := hM.nob ((Only.refl Nob w).alloc _ |>.trans ho)
    go_wp2_with (go_at_call 34; refine (present_any _ _ hb.1 hb.2).mono ?_; rintro e w' ⟨rfl, rfl⟩)
    have hmod := Int.tmod_eq_emod_of_nonneg h0 (b := 8)
    go_quiet (first | (go_at_call 50; exact quiet_same (number_any _ _ hb.1 hb.2)) | (go_at_call 67; exact quiet_same (word_any (mp := mp) (fb := fb) (M := M) _ _ _ (hM1.drewN _) (by omega) (by omega) (by omega) (by omega))))
    go_wp2
    go_ret
    refine ⟨?_, ((Only.refl Nob w).alloc _ |>.trans ho).drewN _⟩
    show Ending.returned (.int .u16 _) = _
    rw [HE.out]
    refine ret_int ?_
    congr 1
    omega

set_option maxHeartbeats 400000 in
theorem missing_any {mp fb : Nat} {M : Mm} (w : World) (r : Nat) (p : Int) (hM : Mem w mp fb M) (hr : r < M.n) (h0 : 0 ≤ p) (h1 : p < 64) :
    Calls Try.prog 38 #[sp mp r, .int .i64 p] w fun e w' => e = .returned (.int .i64 (if pres (M.tbl r p.toNat) then 0 else 1)) ∧ Only Nob w w' := by
  have hb : 0 ≤ M.tbl r p.toNat ∧ M.tbl r p.toNat ≤ 65535 := hM.wb r (p.toNat / 8)
  cases hx : pres (M.tbl r p.toNat)
  all_goals
    go_enter Try.func38, Try.ntmps38
    go_wp2_with fail
    refine (table_any (M := M) _ r p (hM.alloc _) hr h0 h1).mono ?_
    rintro e w1 ⟨rfl, ho⟩
    go_wp2_with (go_at_call 34; refine (present_any _ _ hb.1 hb.2).mono ?_; rintro e w' ⟨rfl, rfl⟩)
    go_ret
    exact ⟨rfl, (Only.refl Nob w).alloc _ |>.trans ho⟩

set_option maxHeartbeats 400000 in
theorem setTable_any {mp fb : Nat} {M : Mm} (w : World) (r : Nat) (p v : Int) (hM : Mem w mp fb M) (hr : r < M.n) (h0 : 0 ≤ p) (h1 : p < 64) (h2 : 0 ≤ v) (h3 : v ≤ 65535) :
    Calls Try.prog 64 #[sp mp r, .int .i64 p, .int .u16 v] w fun e w' => e = .returned (.tuple #[]) ∧ Mem w' mp fb (M.setW r (p.toNat / 8) v) ∧ Only (One fb) w w' := by
  have hle := hM.le
  have hlt := hM.row_lt
  go_enter Try.func64, Try.ntmps64
  go_wp2_with fail
  refine (setWord_any (M := M) _ _ _ _ (hM.alloc _) (by omega) (by omega) (by omega) (by omega) h2 h3).mono ?_
  rintro e w1 ⟨rfl, hM1, ho⟩
  go_wp2
  go_end0
  rw [show ((r : Int)).toNat = r by omega, show (p / 8).toNat = p.toNat / 8 by omega] at hM1
  exact ⟨rfl, hM1, (Only.refl (One fb) w).alloc _ |>.trans ho⟩

set_option maxHeartbeats 400000 in
theorem setEntry_any {mp fb : Nat} {M : Mm} (w : World) (r : Nat) (p v : Int) (hM : Mem w mp fb M) (hr : r < M.n) (h0 : 0 ≤ p) (h1 : p < 64) (h2 : 0 ≤ v) (h3 : v ≤ 65535)
  (hn : numb (M.tbl r p.toNat) < M.n) :
    Calls Try.prog 61 #[sp mp r, .int .i64 p, .int .u16 v] w fun e w' => e = .returned (.tuple #[]) ∧ Mem w' mp fb (M.setW (numb (M.tbl r p.toNat)) (p.toNat % 8) v) ∧ Only (One fb) w w' := by
  have hle := hM.le
  have hlt := hM.row_lt
  have hb : 0 ≤ M.tbl r p.toNat ∧ M.tbl r p.toNat ≤ 65535 := hM.wb r (p.toNat / 8)
  have hmod := Int.tmod_eq_emod_of_nonneg h0 (b := 8)
  go_enter Try.func61, Try.ntmps61
  go_wp2_with fail
  go_region_with (first
    | (go_at_call 63; refine (table_any (mp := mp) (fb := fb) (M := M) _ r p ?_ hr h0 h1).mono ?_; exact (hM.alloc _).drew; rintro e w1 ⟨rfl, ho⟩; have hc0 := ho.laidD (fun h => h) 0; have hc1 := ho.laidD (fun h => h) 1; have ⟨hM1, hO1⟩ := hM.behindD ho)
    | (go_at_call 50; refine (number_any _ _ hb.1 hb.2).mono ?_; rintro e w' ⟨rfl, rfl⟩)
    | (go_at_call 66; refine (setWord_any (mp := mp) (fb := fb) (M := M) _ _ _ _ hM1 (by omega) (by omega) (by omega) (by omega) h2 h3).mono ?_; rintro e w2 ⟨rfl, hM2, ho2⟩))
  all_goals
    go_end0
    rw [Int.toNat_natCast, show (p % 8).toNat = p.toNat % 8 by omega] at hM2
    exact ⟨rfl, hM2, (hO1.of_nob (S := One fb)).trans ho2⟩
end Go.Proofs.Ytfcepnhknmbaaaa
