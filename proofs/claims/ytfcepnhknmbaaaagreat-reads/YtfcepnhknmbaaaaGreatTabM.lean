/- The contracts of package tables (its entries; a space's table, Walk, Missing, setTable, setEntry, groupEmpty): what each answers and what becomes of the frames. -/
import Derived.Test.YtfcepnhknmbaaaaGreatMemWalks
import Derived.Deep.DeepCutAuto
namespace Go.Proofs.YtfcepnhknmbaaaaGreat
open Go.RowKit Go.Deep

def pres (x : Int) : Bool := x % 2 == 1
def wrib (x : Int) : Bool := x / 2 % 2 == 1
def numb (x : Int) : Nat := (x / 4 % 64).toNat
def entryOf (f : Nat) (b : Bool) : Int := 1 + 4 * f + if b then 2 else 0

theorem bits_pres (x : Int) (h0 : 0 ≤ x) (h1 : x ≤ 65535) : (bits BinOp.and IntKind.u16 x 1 != 0) = pres x := by
  rw [u16_and x 1 h0 (by omega) (by omega) (by omega)]
  rw [show (1 : Int).toNat = 1 from rfl, nat_mask1]
  simp only [pres]
  rw [Bool.eq_iff_iff]; simp; omega

theorem bits_wri (x : Int) (h0 : 0 ≤ x) (h1 : x ≤ 65535) : (bits BinOp.and IntKind.u16 x 2 != 0) = wrib x := by
  rw [u16_and x 2 h0 (by omega) (by omega) (by omega)]
  rw [show (2 : Int).toNat = 2 ^ 1 from rfl, nat_bit]
  simp only [wrib]
  rw [Bool.eq_iff_iff]; simp; omega

theorem bits_63 (n : Int) : bits BinOp.and IntKind.i64 n 63 = n % 64 := by
  have h63 : (BitVec.ofInt 64 63).toNat = 2 ^ 6 - 1 := by decide
  have key : (BitVec.ofInt 64 n &&& BitVec.ofInt 64 63).toNat = (n % ((2 ^ 64 : Nat) : Int)).toNat % 2 ^ 6 := by
    rw [BitVec.toNat_and, BitVec.toNat_ofInt, h63, Nat.and_two_pow_sub_one_eq_mod]
  show IntKind.i64.wrap ((BitVec.ofInt 64 n &&& BitVec.ofInt 64 63).toNat : Nat) = n % 64
  rw [key, IntKind.wrap_i64]
  omega

theorem bits_new (f : Nat) (h1 : f ≤ 63) : bits BinOp.or IntKind.u16 1 (IntKind.u16.wrap (IntKind.u16.wrap (bits BinOp.and IntKind.i64 f 63) * 4)) = entryOf f false ∧ bits BinOp.or IntKind.u16 (bits BinOp.or IntKind.u16 1 (IntKind.u16.wrap (IntKind.u16.wrap (bits BinOp.and IntKind.i64 f 63) * 4))) 2 = entryOf f true := by
  have h : ∀ f : Fin 64, bits BinOp.or IntKind.u16 1 (IntKind.u16.wrap (IntKind.u16.wrap (bits BinOp.and IntKind.i64 f.val 63) * 4)) = entryOf f.val false ∧ bits BinOp.or IntKind.u16 (bits BinOp.or IntKind.u16 1 (IntKind.u16.wrap (IntKind.u16.wrap (bits BinOp.and IntKind.i64 f.val 63) * 4))) 2 = entryOf f.val true := by
    decide +kernel
  exact h ⟨f, by omega⟩

theorem entryOf_bd (f : Nat) (b : Bool) (h : f ≤ 63) : 0 ≤ entryOf f b ∧ entryOf f b ≤ 65535 := by
  simp only [entryOf]; split <;> omega
theorem pres_entryOf (f : Nat) (b : Bool) : pres (entryOf f b) = true := by
  simp only [entryOf, pres, beq_iff_eq]; split <;> omega
theorem wrib_entryOf (f : Nat) (b : Bool) : wrib (entryOf f b) = b := by
  cases b <;> simp [entryOf, wrib] <;> omega
theorem numb_entryOf (f : Nat) (b : Bool) (h : f ≤ 63) : numb (entryOf f b) = f := by
  simp only [entryOf, numb]; split <;> omega
theorem numb_lt (x : Int) : numb x ≤ 63 := by simp only [numb]; omega
theorem pres_zero : pres 0 = false := rfl

set_option maxHeartbeats 400000 in
theorem present_any (w : World) (x : Int) (h0 : 0 ≤ x) (h1 : x ≤ 65535) :
    Calls Tryz.prog 56 #[.int .u16 x] w fun e w' => e = .returned (.bool (pres x)) ∧ w = w' := by
  go_enter Tryz.func56, Tryz.ntmps56
  go_wp2
  go_ret
  refine ⟨?_, rfl⟩
  show Ending.returned (.bool _) = _
  rw [bits_pres x h0 h1]

set_option maxHeartbeats 400000 in
theorem writable_any (w : World) (x : Int) (h0 : 0 ≤ x) (h1 : x ≤ 65535) :
    Calls Tryz.prog 65 #[.int .u16 x] w fun e w' => e = .returned (.bool (wrib x)) ∧ w = w' := by
  go_enter Tryz.func65, Tryz.ntmps65
  go_wp2
  go_ret
  refine ⟨?_, rfl⟩
  show Ending.returned (.bool _) = _
  rw [bits_wri x h0 h1]

set_option maxHeartbeats 400000 in
theorem number_any (w : World) (x : Int) (h0 : 0 ≤ x) (h1 : x ≤ 65535) :
    Calls Tryz.prog 68 #[.int .u16 x] w fun e w' => e = .returned (.int .i64 (numb x)) ∧ w = w' := by
  go_enter Tryz.func68, Tryz.ntmps68
  go_wp2
  go_ret
  refine ⟨?_, rfl⟩
  show Ending.returned (.int .i64 _) = _
  rw [bits_63]
  exact ret_int (by simp only [numb]; omega)

set_option maxHeartbeats 400000 in
theorem newEntry_any (w : World) (f : Nat) (h1 : f ≤ 63) (b : Bool) :
    Calls Tryz.prog 86 #[.int .i64 f, .bool b] w fun e w' => e = .returned (.int .u16 (entryOf f b)) ∧ w = w' := by
  have hn := bits_new f h1
  cases b
  · have H := hid hn.1
    clear hn
    go_enter Tryz.func86, Tryz.ntmps86
    go_wp2
    go_ret
    exact ⟨ret_int H.out, rfl⟩
  · have H := hid hn.2
    clear hn
    go_enter Tryz.func86, Tryz.ntmps86
    go_wp2
    go_ret
    exact ⟨ret_int H.out, rfl⟩

/-- A space: its memory, its root. -/
abbrev sp (mp r : Nat) : Value := .agg #[pt mp, .int .i64 r]

def Mm.tbl (M : Mm) (r p : Nat) : Int := M.W r (p / 8)
def Mm.ent (M : Mm) (r p : Nat) : Int := if pres (M.tbl r p) then M.W (numb (M.tbl r p)) (p % 8) else M.tbl r p

set_option maxHeartbeats 400000 in
theorem table_any {mp fb : Nat} {M : Mm} (w : World) (r : Nat) (p : Int) (hM : Mem w mp fb M) (hr : r < M.n) (h0 : 0 ≤ p) (h1 : p < 64) :
    Calls Tryz.prog 84 #[sp mp r, .int .i64 p] w fun e w' => e = .returned (.int .u16 (M.tbl r p.toNat)) ∧ Only Nob w w' := by
  have hle := hM.le
  go_enter Tryz.func84, Tryz.ntmps84
  go_wp2_with (go_at_call 89; refine (word_any _ _ _ (hM.alloc _) (by omega) (by omega) (by omega) (by omega)).mono ?_; rintro e w' ⟨rfl, rfl⟩)
  go_ret
  refine ⟨?_, (Only.refl _ _).alloc _⟩
  show Ending.returned (.int .u16 _) = _
  refine ret_int ?_
  simp only [Mm.tbl]
  congr 1
  omega

set_option maxHeartbeats 400000 in
theorem walk_any {mp fb : Nat} {M : Mm} (w : World) (r : Nat) (p : Int) (hM : Mem w mp fb M) (hr : r < M.n) (h0 : 0 ≤ p) (h1 : p < 64)
  (ht : pres (M.tbl r p.toNat) = true → numb (M.tbl r p.toNat) < M.n) :
    Calls Tryz.prog 82 #[sp mp r, .int .i64 p] w fun e w' => e = .returned (.int .u16 (M.ent r p.toNat)) ∧ Only Nob w w' := by
  have hle := hM.le
  have hb : 0 ≤ M.tbl r p.toNat ∧ M.tbl r p.toNat ≤ 65535 := hM.wb r (p.toNat / 8)
  cases hx : pres (M.tbl r p.toNat)
  · have HE := hid (show M.ent r p.toNat = M.tbl r p.toNat by simp only [Mm.ent, hx]; rfl)
    clear ht
    go_enter Tryz.func82, Tryz.ntmps82
    go_wp2_with fail
    refine (table_any (M := M) _ r p (hM.alloc _) hr h0 h1).mono ?_
    rintro e w1 ⟨rfl, ho⟩
    go_wp2_with (go_at_call 56; refine (present_any _ _ hb.1 hb.2).mono ?_; rintro e w' ⟨rfl, rfl⟩)
    go_ret
    exact ⟨by rw [HE.out]; rfl, (Only.refl Nob w).alloc _ |>.trans ho⟩
  · have HE := hid (show M.ent r p.toNat = M.W (numb (M.tbl r p.toNat)) (p.toNat % 8) by simp only [Mm.ent, hx]; rfl)
    have hn := ht hx
    clear ht
    go_enter Tryz.func82, Tryz.ntmps82
    go_wp2_with fail
    refine (table_any (M := M) _ r p (hM.alloc _) hr h0 h1).mono ?_
    rintro e w1 ⟨rfl, ho⟩
    have hc0 := ho.laid (fun h => h) 0
    have hM1 := hM.nob ((Only.refl Nob w).alloc _ |>.trans ho)
    go_wp2_with (go_at_call 56; refine (present_any _ _ hb.1 hb.2).mono ?_; rintro e w' ⟨rfl, rfl⟩)
    have hmod := Int.tmod_eq_emod_of_nonneg h0 (b := 8)
    go_quiet (first | (go_at_call 68; exact quiet_same (number_any _ _ hb.1 hb.2)) | (go_at_call 89; exact quiet_same (word_any (mp := mp) (fb := fb) (M := M) _ _ _ (hM1.drewN _) (by omega) (by omega) (by omega) (by omega))))
    go_wp2
    go_ret
    refine ⟨?_, ((Only.refl Nob w).alloc _ |>.trans ho).drewN _⟩
    show Ending.returned (.int .u16 _) = _
    rw [HE.out]
    refine ret_int ?_
    congr 1
    omega

set_option maxHeartbeats 400000 in
theorem missing_any {mp fb : Nat} {M : Mm} (w : World) (r : Nat) (p : Int) (hM : Mem w mp fb M) (hr : r < M.n) (h0 : 0 ≤ p) (h1 : p < 64) :
    Calls Tryz.prog 57 #[sp mp r, .int .i64 p] w fun e w' => e = .returned (.int .i64 (if pres (M.tbl r p.toNat) then 0 else 1)) ∧ Only Nob w w' := by
  have hb : 0 ≤ M.tbl r p.toNat ∧ M.tbl r p.toNat ≤ 65535 := hM.wb r (p.toNat / 8)
  cases hx : pres (M.tbl r p.toNat)
  all_goals
    go_enter Tryz.func57, Tryz.ntmps57
    go_wp2_with fail
    refine (table_any (M := M) _ r p (hM.alloc _) hr h0 h1).mono ?_
    rintro e w1 ⟨rfl, ho⟩
    go_wp2_with (go_at_call 56; refine (present_any _ _ hb.1 hb.2).mono ?_; rintro e w' ⟨rfl, rfl⟩)
    go_ret
    exact ⟨rfl, (Only.refl Nob w).alloc _ |>.trans ho⟩

set_option maxHeartbeats 400000 in
theorem setTable_any {mp fb : Nat} {M : Mm} (w : World) (r : Nat) (p v : Int) (hM : Mem w mp fb M) (hr : r < M.n) (h0 : 0 ≤ p) (h1 : p < 64) (h2 : 0 ≤ v) (h3 : v ≤ 65535) :
    Calls Tryz.prog 85 #[sp mp r, .int .i64 p, .int .u16 v] w fun e w' => e = .returned (.tuple #[]) ∧ Mem w' mp fb (M.setW r (p.toNat / 8) v) ∧ Only (One fb) w w' := by
  have hle := hM.le
  have hlt := hM.row_lt
  go_enter Tryz.func85, Tryz.ntmps85
  go_wp2_with fail
  refine (setWord_any (M := M) _ _ _ _ (hM.alloc _) (by omega) (by omega) (by omega) (by omega) h2 h3).mono ?_
  rintro e w1 ⟨rfl, hM1, ho⟩
  go_wp2
  go_end0
  rw [show ((r : Int)).toNat = r by omega, show (p / 8).toNat = p.toNat / 8 by omega] at hM1
  exact ⟨rfl, hM1, (Only.refl (One fb) w).alloc _ |>.trans ho⟩

set_option maxHeartbeats 400000 in
theorem setEntry_any {mp fb : Nat} {M : Mm} (w : World) (r : Nat) (p v : Int) (hM : Mem w mp fb M) (hr : r < M.n) (h0 : 0 ≤ p) (h1 : p < 64) (h2 : 0 ≤ v) (h3 : v ≤ 65535)
  (hn : numb (M.tbl r p.toNat) < M.n) :
    Calls Tryz.prog 87 #[sp mp r, .int .i64 p, .int .u16 v] w fun e w' => e = .returned (.tuple #[]) ∧ Mem w' mp fb (M.setW (numb (M.tbl r p.toNat)) (p.toNat % 8) v) ∧ Only (One fb) w w' := by
  have hle := hM.le
  have hlt := hM.row_lt
  have hb : 0 ≤ M.tbl r p.toNat ∧ M.tbl r p.toNat ≤ 65535 := hM.wb r (p.toNat / 8)
  have hmod := Int.tmod_eq_emod_of_nonneg h0 (b := 8)
  go_enter Tryz.func87, Tryz.ntmps87
  go_wp2_with fail
  go_region_with (first
    | (go_at_call 84; refine (table_any (mp := mp) (fb := fb) (M := M) _ r p ?_ hr h0 h1).mono ?_; exact (hM.alloc _).drew; rintro e w1 ⟨rfl, ho⟩; have hc0 := ho.laidD (fun h => h) 0; have hc1 := ho.laidD (fun h => h) 1; have ⟨hM1, hO1⟩ := hM.behindD ho)
    | (go_at_call 68; refine (number_any _ _ hb.1 hb.2).mono ?_; rintro e w' ⟨rfl, rfl⟩)
    | (go_at_call 90; refine (setWord_any (mp := mp) (fb := fb) (M := M) _ _ _ _ hM1 (by omega) (by omega) (by omega) (by omega) h2 h3).mono ?_; rintro e w2 ⟨rfl, hM2, ho2⟩))
  all_goals
    go_end0
    rw [Int.toNat_natCast, show (p % 8).toNat = p.toNat % 8 by omega] at hM2
    exact ⟨rfl, hM2, (hO1.of_nob (S := One fb)).trans ho2⟩
end Go.Proofs.YtfcepnhknmbaaaaGreat

/- The contracts of package tables, more: groupEmpty, Remove, End, Enter, NewSpace; and memory's New. -/
namespace Go.Proofs.YtfcepnhknmbaaaaGreat
open Go.RowKit Go.Deep

/-- No entry of a table from k on is present, f of them. -/
def nonePres (M : Mm) (t : Nat) : Nat → Nat → Bool
  | _, 0 => true
  | k, f + 1 => !(pres (M.W t k)) && nonePres M t (k + 1) f
def Mm.empty (M : Mm) (t : Nat) : Bool := nonePres M t 0 8

set_option maxHeartbeats 400000 in
theorem groupEmpty_any {mp fb : Nat} {M : Mm} (w : World) (r : Nat) (p : Int) (hM : Mem w mp fb M) (hr : r < M.n) (h0 : 0 ≤ p) (h1 : p < 64)
  (hn : numb (M.tbl r p.toNat) < M.n) :
    Calls Tryz.prog 88 #[sp mp r, .int .i64 p] w fun e w' => e = .returned (.bool (M.empty (numb (M.tbl r p.toNat)))) ∧ Only Nob w w' := by
  have hle := hM.le
  have hb : 0 ≤ M.tbl r p.toNat ∧ M.tbl r p.toNat ≤ 65535 := hM.wb r (p.toNat / 8)
  go_enter Tryz.func88, Tryz.ntmps88
  go_wp2_with fail
  refine (table_any (mp := mp) (fb := fb) (M := M) _ r p (hM.alloc _) hr h0 h1).mono ?_
  rintro e w1 ⟨rfl, ho⟩
  have hc0 := ho.laid (fun h => h) 0
  obtain ⟨hM1, hO1⟩ := hM.behind ho
  go_wp2_with (go_at_call 68; refine (number_any _ _ hb.1 hb.2).mono ?_; rintro e w' ⟨rfl, rfl⟩)
  go_loop [11] (fun c => ∃ k : Nat, k ≤ 8 ∧ c = .int .i64 k ∧ nonePres M (numb (M.tbl r p.toNat)) k (8 - k) = M.empty (numb (M.tbl r p.toNat))) (fun c => 8 - (intOf c).toNat)
  case atStart => exact ⟨0, Nat.zero_le _, rfl, rfl⟩
  case round =>
    obtain ⟨k, hk, rfl, he⟩ := hrel
    by_cases hlt : k < 8
    · rw [show 8 - k = (8 - (k + 1)) + 1 by omega] at he
      simp only [nonePres] at he
      have hb2 := hM1.wb (numb (M.tbl r p.toNat)) k
      cases hx : pres (M.W (numb (M.tbl r p.toNat)) k)
      · rw [hx, Bool.not_false, Bool.true_and] at he
        have HE := hid he
        clear he
        go_wp2_with (first | (go_at_call 89; refine (word_any (mp := mp) (fb := fb) (M := M) _ _ _ hM1 (by omega) (by omega) (by omega) (by omega)).mono ?_; rintro e w' ⟨rfl, rfl⟩; rw [Int.toNat_natCast, Int.toNat_natCast]) | (go_at_call 56; refine (present_any _ _ hb2.1 hb2.2).mono ?_; rintro e w' ⟨rfl, rfl⟩))
        go_round
        case rel => exact ⟨k + 1, by omega, by go_num, HE.out⟩
        case measure => simp [intOf]; omega
      · rw [hx, Bool.not_true, Bool.false_and] at he
        have HE := hid he
        clear he
        go_wp2_with (first | (go_at_call 89; refine (word_any (mp := mp) (fb := fb) (M := M) _ _ _ hM1 (by omega) (by omega) (by omega) (by omega)).mono ?_; rintro e w' ⟨rfl, rfl⟩; rw [Int.toNat_natCast, Int.toNat_natCast]) | (go_at_call 56; refine (present_any _ _ hb2.1 hb2.2).mono ?_; rintro e w' ⟨rfl, rfl⟩))
        go_ret
        exact ⟨by rw [← HE.out]; rfl, hO1⟩
    · have e8 : k = 8 := by omega
      subst e8
      have HE := hid he
      clear he
      go_wp2
      go_ret
      exact ⟨by rw [← HE.out]; rfl, hO1⟩

/-- What Remove leaves of the frames. -/
def Mm.unuse (M : Mm) (f : Nat) : Mm := M.setU f (M.U f - 1)
def Mm.removed (M : Mm) (r p : Nat) : Mm := (M.unuse (numb (M.ent r p))).setW (numb (M.tbl r p)) (p % 8) 0
def Mm.remove (M : Mm) (r p : Nat) : Mm :=
  if pres (M.ent r p) then
    if (M.removed r p).empty (numb (M.tbl r p)) then ((M.removed r p).unuse (numb (M.tbl r p))).setW r (p / 8) 0
    else M.removed r p
  else M

/-- What a walk through a space's tables asks of the frames. -/
structure Sound (M : Mm) (r p : Nat) : Prop where
  root : r < M.n
  tab : pres (M.tbl r p) = true → numb (M.tbl r p) < M.n ∧ numb (M.tbl r p) ≠ r ∧ 1 ≤ M.U (numb (M.tbl r p))
  page : pres (M.ent r p) = true → numb (M.ent r p) < M.n ∧ 1 ≤ M.U (numb (M.ent r p)) ∧ numb (M.ent r p) ≠ numb (M.tbl r p)

theorem pres_tbl {M : Mm} {r p : Nat} (h : pres (M.ent r p) = true) : pres (M.tbl r p) = true := by
  cases hx : pres (M.tbl r p) with
  | true => rfl
  | false => simp [Mm.ent, hx] at h

theorem ent_bd {w : World} {mp fb : Nat} {M : Mm} (h : Mem w mp fb M) (r p : Nat) : 0 ≤ M.ent r p ∧ M.ent r p ≤ 65535 := by
  simp only [Mm.ent]
  split
  · exact h.wb _ _
  · exact h.wb _ _

theorem removed_tbl {M : Mm} {r p : Nat} (h : numb (M.tbl r p) ≠ r) : (M.removed r p).tbl r p = M.tbl r p := by
  simp only [Mm.removed, Mm.tbl, Mm.unuse, Mm.setW, Mm.setU, upd2]
  rw [if_neg (fun e => h e.1.symm)]

set_option maxHeartbeats 1000000 in
theorem remove_any {mp fb : Nat} {M : Mm} (w : World) (r : Nat) (p : Int) (hM : Mem w mp fb M) (h0 : 0 ≤ p) (h1 : p < 64) (hS : Sound M r p.toNat) :
    Calls Tryz.prog 61 #[sp mp r, .int .i64 p] w fun e w' => e = .returned (.tuple #[]) ∧ Mem w' mp fb (M.remove r p.toNat) ∧ Only (One fb) w w' := by
  have hle := hM.le
  have hlt := hM.row_lt
  have hr := hS.root
  have hb := ent_bd hM r p.toNat
  have htn := fun h => (hS.tab h).1
  cases hx : pres (M.ent r p.toNat)
  · have HE := hid (show M.remove r p.toNat = M by simp [Mm.remove, hx])
    go_enter Tryz.func61, Tryz.ntmps61
    go_wp2_with fail
    refine (walk_any (mp := mp) (fb := fb) (M := M) _ r p (hM.alloc _) hr h0 h1 htn).mono ?_
    rintro e w1 ⟨rfl, ho⟩
    obtain ⟨hM1, hO1⟩ := hM.behind ho
    go_wp2_with (go_at_call 56; refine (present_any _ _ hb.1 hb.2).mono ?_; rintro e w' ⟨rfl, rfl⟩)
    refine bodyPost_ret (results_none rfl _ _ _) rfl ?_
    rw [HE.out]
    exact ⟨rfl, hM1, hO1.of_nob⟩
  · obtain ⟨hp1, hp2, hp3⟩ := hS.page hx
    obtain ⟨ht1, ht2, ht3⟩ := hS.tab (pres_tbl hx)
    have HE := hid (show M.remove r p.toNat = if (M.removed r p.toNat).empty (numb (M.tbl r p.toNat)) then ((M.removed r p.toNat).unuse (numb (M.tbl r p.toNat))).setW r (p.toNat / 8) 0 else M.removed r p.toNat by simp [Mm.remove, hx])
    have HT := hid (removed_tbl (M := M) (p := p.toNat) ht2)
    have hu2 : 1 ≤ (M.removed r p.toNat).U (numb (M.tbl r p.toNat)) := by
      simp only [Mm.removed, Mm.unuse, Mm.setW, Mm.setU, upd]
      rw [if_neg (fun e => hp3 e.symm)]; exact ht3
    clear htn
    go_enter Tryz.func61, Tryz.ntmps61
    go_wp2_with fail
    refine (walk_any (mp := mp) (fb := fb) (M := M) _ r p (hM.alloc _) hr h0 h1 (fun _ => ht1)).mono ?_
    rintro e w1 ⟨rfl, ho⟩
    have hc0 := ho.laid (fun h => h) 0
    have hc1 := ho.laid (fun h => h) 1
    obtain ⟨hM1, hO1⟩ := hM.behind ho
    have hsz : w.heap.size < w1.heap.size := by have := ho.size; simp at this; omega
    clear ho
    go_wp2_with (go_at_call 56; refine (present_any _ _ hb.1 hb.2).mono ?_; rintro e w' ⟨rfl, rfl⟩)
    go_cut [] (fun wx => Mem wx mp fb (M.unuse (numb (M.ent r p.toNat))) ∧ Only (One fb) w wx ∧ wx.cell? ⟨w.heap.size, 0, none⟩ = some (pt mp) ∧ wx.cell? ⟨w.heap.size, 1, none⟩ = some (.int .i64 r))
    case first =>
      go_region_with (first
        | (go_at_call 68; refine (number_any _ _ hb.1 hb.2).mono ?_; rintro e w' ⟨rfl, rfl⟩)
        | (go_at_call 80; refine (release_any (mp := mp) (fb := fb) (M := M) _ _ hM1.drew (by omega) (by omega) (by simpa using hp2)).mono ?_; rintro e w2 ⟨rfl, hM2, ho2⟩))
      all_goals
        go_wp2_with fail
        go_meet
        case rel =>
          rw [Int.toNat_natCast] at hM2
          exact ⟨hM2, (hO1.of_nob (S := One fb)).drew.trans ho2, ho2.keep (fun h => by simp [One] at h; omega) hc0, ho2.keep (fun h => by simp [One] at h; omega) hc1⟩
    case rest =>
      obtain ⟨hMc, hOc, hc0c, hc1c⟩ := hcut
      have hszc : w.heap.size < wc.heap.size := World.block_lt_of_cell? _ _ hc0c
      clear hc0 hc1 hM1 hO1 hsz
      go_wp2_with fail
      refine (setEntry_any (mp := mp) (fb := fb) (M := M.unuse (numb (M.ent r p.toNat))) _ r p 0 hMc hr h0 h1 (by omega) (by omega) ht1).mono ?_
      rintro e w3 ⟨rfl, hM3, ho3⟩
      change Mem w3 mp fb (M.removed r p.toNat) at hM3
      have hd0 := ho3.keep (fun h => by simp [One] at h; omega) hc0c
      have hd1 := ho3.keep (fun h => by simp [One] at h; omega) hc1c
      have hO3 := hOc.trans ho3
      clear hMc hOc hc0c hc1c ho3
      go_wp2_with fail
      refine (groupEmpty_any (mp := mp) (fb := fb) (M := M.removed r p.toNat) _ r p hM3 hr h0 h1 (by rw [HT.out]; exact ht1)).mono ?_
      rintro e w4 ⟨rfl, ho4⟩
      rw [HT.out]
      have he0 := ho4.keep (fun h => h) hd0
      have he1 := ho4.keep (fun h => h) hd1
      have hM4 := hM3.nob ho4
      have hO4 := hO3.trans (ho4.of_nob (S := One fb))
      clear hM3 hO3 hd0 hd1 ho4
      cases hem : (M.removed r p.toNat).empty (numb (M.tbl r p.toNat))
      · have HF := hid (show M.remove r p.toNat = M.removed r p.toNat by rw [HE.out, hem]; rfl)
        clear HE
        go_wp2_with fail
        go_end0
        rw [HF.out]
        exact ⟨rfl, hM4, hO4⟩
      · have HF := hid (show M.remove r p.toNat = ((M.removed r p.toNat).unuse (numb (M.tbl r p.toNat))).setW r (p.toNat / 8) 0 by rw [HE.out, hem]; rfl)
        clear HE
        have hbt : 0 ≤ M.tbl r p.toNat ∧ M.tbl r p.toNat ≤ 65535 := hM.wb r (p.toNat / 8)
        go_wp2_with fail
        go_cut [] (fun wx => Mem wx mp fb ((M.removed r p.toNat).unuse (numb (M.tbl r p.toNat))) ∧ Only (One fb) w wx ∧ wx.cell? ⟨w.heap.size, 0, none⟩ = some (pt mp) ∧ wx.cell? ⟨w.heap.size, 1, none⟩ = some (.int .i64 r))
        case first =>
          go_region_with (first
            | (go_at_call 84; refine (table_any (mp := mp) (fb := fb) (M := M.removed r p.toNat) _ r p hM4.drew hr h0 h1).mono ?_; rintro e w5 ⟨rfl, ho5⟩; rw [HT.out]; have hf0 := ho5.keep (fun h => h) he0; have hf1 := ho5.keep (fun h => h) he1; have hM5 := hM4.drew.nob ho5)
            | (go_at_call 68; refine (number_any _ _ hbt.1 hbt.2).mono ?_; rintro e w' ⟨rfl, rfl⟩)
            | (go_at_call 80; refine (release_any (mp := mp) (fb := fb) (M := M.removed r p.toNat) _ _ hM5 (by omega) (by show ((numb (M.tbl r p.toNat) : Nat) : Int) < (M.n : Int); omega) (by simpa using hu2)).mono ?_; rintro e w6 ⟨rfl, hM6, ho6⟩))
          all_goals
            go_wp2_with fail
            go_meet
            case rel =>
              rw [Int.toNat_natCast] at hM6
              exact ⟨hM6, (hO4.drew.trans (ho5.of_nob (S := One fb))).trans ho6, ho6.keep (fun h => by simp [One] at h; omega) hf0, ho6.keep (fun h => by simp [One] at h; omega) hf1⟩
        case rest =>
          obtain ⟨hMc, hOc, hc0c, hc1c⟩ := hcut
          clear he0 he1 hM4 hO4
          go_wp2_with fail
          refine (setTable_any (mp := mp) (fb := fb) (M := (M.removed r p.toNat).unuse (numb (M.tbl r p.toNat))) _ r p 0 hMc hr h0 h1 (by omega) (by omega)).mono ?_
          rintro e w7 ⟨rfl, hM7, ho7⟩
          go_wp2_with fail
          go_end0
          rw [HF.out]
          exact ⟨rfl, hM7, hOc.trans ho7⟩
end Go.Proofs.YtfcepnhknmbaaaaGreat

/- The contracts of package tables, the rest: Enter, End, NewSpace; and memory's New. -/
namespace Go.Proofs.YtfcepnhknmbaaaaGreat
open Go.RowKit Go.Deep

def Mm.entered (M : Mm) (r p f : Nat) (b : Bool) : Mm := M.setW (numb (M.tbl r p)) (p % 8) (entryOf f b)
def Mm.tabled (M : Mm) (r p t : Nat) : Mm := (M.take t).setW r (p / 8) (entryOf t true)

theorem tabled_tbl (M : Mm) (r p t : Nat) : (M.tabled r p t).tbl r p = entryOf t true := by
  simp [Mm.tabled, Mm.tbl, Mm.setW, upd2]

theorem firstFree_lt (U : Nat → Int) : ∀ (f k i : Nat), firstFree U k f = some i → k ≤ i ∧ i < k + f ∧ U i = 0
  | 0, k, i, h => by cases h
  | f + 1, k, i, h => by
    simp only [firstFree] at h
    split at h
    · rename_i hu
      have e : k = i := by simpa using h
      subst e
      exact ⟨by omega, by omega, hu⟩
    · have := firstFree_lt U f (k + 1) i h
      exact ⟨by omega, by omega, this.2.2⟩
theorem first_lt {M : Mm} {i : Nat} (h : M.first = some i) : i < M.n ∧ M.U i = 0 := by
  have := firstFree_lt M.U M.n 0 i h
  exact ⟨by omega, this.2.2⟩

set_option maxHeartbeats 1000000 in
theorem enterHad_any {mp fb : Nat} {M : Mm} (w : World) (r : Nat) (p : Int) (f : Nat) (b : Bool) (hM : Mem w mp fb M) (h0 : 0 ≤ p) (h1 : p < 64) (hr : r < M.n) (hf : f ≤ 63)
  (hp : pres (M.tbl r p.toNat) = true) (ht : numb (M.tbl r p.toNat) < M.n) :
    Calls Tryz.prog 58 #[sp mp r, .int .i64 p, .int .i64 f, .bool b] w fun e w' => e = .returned (.tuple #[]) ∧ Mem w' mp fb (M.entered r p.toNat f b) ∧ Only (One fb) w w' := by
  have hle := hM.le
  have hlt := hM.row_lt
  have hb2 := entryOf_bd f b hf
  go_enter Tryz.func58, Tryz.ntmps58
  go_wp2_with fail
  refine (missing_any (mp := mp) (fb := fb) (M := M) _ r p (hM.alloc _) hr h0 h1).mono ?_
  rintro e w1 ⟨rfl, ho⟩
  rw [hp]
  have hc0 := ho.laid (fun h => h) 0
  have hc1 := ho.laid (fun h => h) 1
  obtain ⟨hM1, hO1⟩ := hM.behind ho
  clear ho
  go_wp2_with fail
  go_region_with (first
    | (go_at_call 86; refine (newEntry_any _ f hf b).mono ?_; rintro e w' ⟨rfl, rfl⟩)
    | (go_at_call 87; refine (setEntry_any (mp := mp) (fb := fb) (M := M) _ r p _ hM1.drew hr h0 h1 hb2.1 hb2.2 ht).mono ?_; rintro e w2 ⟨rfl, hM2, ho2⟩))
  all_goals
    go_end0
    exact ⟨rfl, hM2, (hO1.of_nob (S := One fb)).drew.trans ho2⟩

set_option maxHeartbeats 1000000 in
theorem enterNew_any {mp fb : Nat} {M : Mm} (w : World) (r : Nat) (p : Int) (f t : Nat) (b : Bool) (hM : Mem w mp fb M) (h0 : 0 ≤ p) (h1 : p < 64) (hr : r < M.n) (hf : f ≤ 63)
  (hp : pres (M.tbl r p.toNat) = false) (ht : M.first = some t) :
    Calls Tryz.prog 58 #[sp mp r, .int .i64 p, .int .i64 f, .bool b] w fun e w' => e = .returned (.tuple #[]) ∧ Mem w' mp fb ((M.tabled r p.toNat t).entered r p.toNat f b) ∧ Only (One fb) w w' := by
  have hle := hM.le
  have hlt := hM.row_lt
  have hb2 := entryOf_bd f b hf
  have htn := (first_lt ht).1
  have hb3 := entryOf_bd t true (by omega)
  have HT := hid ht
  clear ht
  go_enter Tryz.func58, Tryz.ntmps58
  go_wp2_with fail
  refine (missing_any (mp := mp) (fb := fb) (M := M) _ r p (hM.alloc _) hr h0 h1).mono ?_
  rintro e w1 ⟨rfl, ho⟩
  rw [hp]
  have hc0 := ho.laid (fun h => h) 0
  have hc1 := ho.laid (fun h => h) 1
  obtain ⟨hM1, hO1⟩ := hM.behind ho
  have hsz : w.heap.size < w1.heap.size := World.block_lt_of_cell? _ _ hc0
  clear ho
  go_wp2_with fail
  go_cut [] (fun wx => Mem wx mp fb (M.tabled r p.toNat t) ∧ Only (One fb) w wx ∧ wx.cell? ⟨w.heap.size, 0, none⟩ = some (pt mp) ∧ wx.cell? ⟨w.heap.size, 1, none⟩ = some (.int .i64 r))
  case first =>
    go_region_with (first
      | (go_at_call 59; refine (take_any (mp := mp) (fb := fb) (M := M) _ t hM1.drew HT.out).mono ?_; rintro e w2 ⟨rfl, hM2, ho2⟩; have hd0 := ho2.keep (fun h => by simp [One] at h; omega) hc0; have hd1 := ho2.keep (fun h => by simp [One] at h; omega) hc1)
      | (go_at_call 86; refine (newEntry_any _ t (by omega) true).mono ?_; rintro e w' ⟨rfl, rfl⟩)
      | (go_at_call 85; refine (setTable_any (mp := mp) (fb := fb) (M := M.take t) _ r p _ hM2 hr h0 h1 hb3.1 hb3.2).mono ?_; rintro e w3 ⟨rfl, hM3, ho3⟩))
    all_goals
      go_wp2_with fail
      go_meet
      case rel =>
        exact ⟨hM3, ((hO1.of_nob (S := One fb)).drew.trans ho2).trans ho3, ho3.keep (fun h => by simp [One] at h; omega) hd0, ho3.keep (fun h => by simp [One] at h; omega) hd1⟩
  case rest =>
    obtain ⟨hMc, hOc, hc0c, hc1c⟩ := hcut
    clear hc0 hc1 hM1 hO1
    have HB := hid (tabled_tbl M r p.toNat t)
    have hnt : numb ((M.tabled r p.toNat t).tbl r p.toNat) < M.n := by rw [HB.out, numb_entryOf t true (by omega)]; exact htn
    go_wp2_with fail
    go_region_with (first
      | (go_at_call 86; refine (newEntry_any _ f hf b).mono ?_; rintro e w' ⟨rfl, rfl⟩)
      | (go_at_call 87; refine (setEntry_any (mp := mp) (fb := fb) (M := M.tabled r p.toNat t) _ r p _ hMc.drew hr h0 h1 hb2.1 hb2.2 hnt).mono ?_; rintro e w5 ⟨rfl, hM5, ho5⟩))
    all_goals
      go_end0
      exact ⟨rfl, hM5, hOc.drew.trans ho5⟩

def Mm.endTo (M : Mm) (r : Nat) : Nat → Mm
  | 0 => M
  | k + 1 => (M.endTo r k).remove r k

def Mm.ended (M : Mm) (r : Nat) : Mm := M.endTo r 64

theorem remove_n (M : Mm) (r p : Nat) : (M.remove r p).n = M.n := by
  simp only [Mm.remove]; split
  · split <;> rfl
  · rfl
theorem endTo_n (M : Mm) (r k : Nat) : (M.endTo r k).n = M.n := by
  induction k with
  | zero => rfl
  | succ k ih => simp only [Mm.endTo]; rw [remove_n]; exact ih

set_option maxRecDepth 100000 in
set_option maxHeartbeats 1000000 in
theorem end_any {mp fb : Nat} {M : Mm} (w : World) (r : Nat) (hM : Mem w mp fb M) (hr : r < M.n) (hS : ∀ k, k < 64 → Sound (M.endTo r k) r k) (hU : 1 ≤ (M.ended r).U r) :
    Calls Tryz.prog 49 #[sp mp r] w fun e w' => e = .returned (.tuple #[]) ∧ Mem w' mp fb ((M.ended r).unuse r) ∧ Only (One fb) w w' := by
  have hle := hM.le
  have hlt := hM.row_lt
  have HS := hid hS
  have HN : Hid ((M.ended r).n = M.n) := endTo_n M r 64
  clear hS
  go_enter Tryz.func49, Tryz.ntmps49
  go_wp2
  go_loopw [3] (fun c wr => ∃ k : Nat, k ≤ 64 ∧ c = .int .i64 k ∧ Mem wr mp fb (M.endTo r k) ∧ Only (One fb) w wr ∧ wr.cell? ⟨w.heap.size, 0, none⟩ = some (pt mp) ∧ wr.cell? ⟨w.heap.size, 1, none⟩ = some (.int .i64 r)) (fun c _ => 64 - (intOf c).toNat)
  case atStart => exact ⟨0, by omega, rfl, hM.alloc _, (Only.refl _ _).alloc _, by simp, by simp⟩
  case round =>
    obtain ⟨k, hk, rfl, hMk, hOk, hc0, hc1⟩ := hrel
    by_cases hlt2 : k < 64
    · have hSk := HS.out k hlt2
      go_wp2_with fail
      refine (remove_any (mp := mp) (fb := fb) (M := M.endTo r k) _ r _ hMk (by omega) (by omega) (by rw [Int.toNat_natCast]; exact hSk)).mono ?_
      rintro e w1 ⟨rfl, hM1, ho1⟩
      rw [Int.toNat_natCast] at hM1
      have hsz := World.block_lt_of_cell? _ _ hc0
      have hd0 := ho1.keep (fun h => by simp [One] at h; omega) hc0
      have hd1 := ho1.keep (fun h => by simp [One] at h; omega) hc1
      go_wp2_with fail
      go_roundw
      case rel => exact ⟨k + 1, by omega, by go_num, hM1, hOk.trans ho1, hd0, hd1⟩
      case measure => simp [intOf]; omega
    · have e64 : k = 64 := by omega
      have hMe : Mem wr mp fb (M.ended r) := by rw [e64] at hMk; exact hMk
      clear hMk e64
      go_wp2_with fail
      refine (release_any (mp := mp) (fb := fb) (M := M.ended r) _ _ hMe (by omega) (by rw [HN.out]; omega) (by rw [Int.toNat_natCast]; exact hU)).mono ?_
      rintro e w1 ⟨rfl, hM1, ho1⟩
      rw [Int.toNat_natCast] at hM1
      go_wp2_with fail
      go_end0
      exact ⟨rfl, hM1, hOk.trans ho1⟩

theorem frame_info : (Tryz.prog.info? 127).map (fun i => (i.zero, i.size, i.bytes)) = some (some (.agg #[.int .u16 0, .int .u16 0, .int .u16 0, .int .u16 0, .int .u16 0, .int .u16 0, .int .u16 0, .int .u16 0, .int .i64 0]), 9, 24) := by kernel_rfl

def Mm.fresh (n : Nat) : Mm := ⟨n, fun _ _ => 0, fun _ => 0⟩

theorem made_cell (n j : Nat) (h : j < n * 9) : (madeCells #[.int .u16 0, .int .u16 0, .int .u16 0, .int .u16 0, .int .u16 0, .int .u16 0, .int .u16 0, .int .u16 0, .int .i64 0] (n * 9))[j]? = some (cellOf (Mm.fresh n) j) := by
  simp only [madeCells, Array.getElem?_map, Array.getElem?_range, h, if_true, Option.map_some, cellOf, Mm.fresh]
  have e : j % 9 = 0 ∨ j % 9 = 1 ∨ j % 9 = 2 ∨ j % 9 = 3 ∨ j % 9 = 4 ∨ j % 9 = 5 ∨ j % 9 = 6 ∨ j % 9 = 7 ∨ j % 9 = 8 := by omega
  show some ((#[.int .u16 0, .int .u16 0, .int .u16 0, .int .u16 0, .int .u16 0, .int .u16 0, .int .u16 0, .int .u16 0, .int .i64 0] : Array Value)[j % 9]!) = _
  rcases e with e | e | e | e | e | e | e | e | e <;> rw [e] <;> rfl

set_option maxHeartbeats 400000 in
theorem memNew_any (w : World) (n : Int) (h0 : 0 ≤ n) (h1 : n ≤ 64) :
    Calls Tryz.prog 45 #[.int .i64 n] w fun e w' => ∃ mp fb, e = .returned (pt mp) ∧ w.heap.size ≤ mp ∧ w.heap.size ≤ fb ∧ Mem w' mp fb (Mm.fresh n.toNat) ∧ Only Nob w w' := by
  obtain ⟨i, hi, hzz⟩ := Option.map_eq_some_iff.1 frame_info
  simp only [Prod.mk.injEq] at hzz
  obtain ⟨hz, hs, hb⟩ := hzz
  have hmk := fun w => run_make (P := Tryz.prog) w 123 127 i _ Tryz.underlying123 hi hz .i64 .i64 n n h0 (Int.le_refl _) (by rw [hb]; omega) (by omega)
  rw [hs] at hmk
  clear hi hz hs hb
  go_enter Tryz.func45, Tryz.ntmps45
  go_wp2
  go_ret
  refine ⟨w.heap.size + 1, w.heap.size, rfl, by omega, Nat.le_refl _, ?_, ((Only.refl _ _).alloc _).alloc _⟩
  have r0 := World.rowIs_alloc w (madeCells #[.int .u16 0, .int .u16 0, .int .u16 0, .int .u16 0, .int .u16 0, .int .u16 0, .int .u16 0, .int .u16 0, .int .i64 0] (n.toNat * 9)) 127 (cellOf (Mm.fresh n.toNat)) (fun j hj => made_cell _ j (by rw [size_madeCells] at hj; exact hj))
  rw [size_madeCells] at r0
  refine ⟨⟨125, ?_⟩, ⟨127, r0.alloc _⟩, by omega, by show n.toNat ≤ 64; omega, fun _ _ => by simp [Mm.fresh], fun _ => by simp [Mm.fresh]⟩
  have r1 := World.rowIs_alloc (w.alloc (.cells (madeCells #[.int .u16 0, .int .u16 0, .int .u16 0, .int .u16 0, .int .u16 0, .int .u16 0, .int .u16 0, .int .u16 0, .int .i64 0] (n.toNat * 9)) 127)) #[.slice (some ⟨w.heap.size, 0, none⟩) n.toNat n.toNat] 125 (fun _ => .slice (some ⟨w.heap.size, 0, none⟩) n.toNat n.toNat) (fun j hj => by
    have : j = 0 := by simpa using hj
    subst this
    rfl)
  rw [World.size_alloc] at r1
  exact r1

set_option maxHeartbeats 400000 in
theorem newSpace_any {mp fb : Nat} {M : Mm} (w : World) (i : Nat) (hM : Mem w mp fb M) (hi : M.first = some i) :
    Calls Tryz.prog 78 #[pt mp] w fun e w' => e = .returned (sp mp i) ∧ Mem w' mp fb (M.take i) ∧ Only (One fb) w w' := by
  have HI := hid hi
  have hlt := hM.row_lt
  clear hi
  go_enter Tryz.func78, Tryz.ntmps78
  go_wp2_with fail
  refine (take_any (mp := mp) (fb := fb) (M := M) _ i (hM.alloc _) HI.out).mono ?_
  rintro e w1 ⟨rfl, hM1, ho1⟩
  have hc0 := ho1.laid (fun h => by simp [One] at h; omega) 0
  have hc1 := ho1.laid (fun h => by simp [One] at h; omega) 1
  have hf0 := ho1.frozen (p := ⟨w.heap.size, 0, none⟩) (by simp) (fun h => by simp [One] at h; omega)
  have hf1 := ho1.frozen (p := ⟨w.heap.size, 1, none⟩) (by simp) (fun h => by simp [One] at h; omega)
  rw [World.frozen?_alloc_new] at hf0 hf1
  go_wp2_with fail
  have hm1 : mp < w.heap.size := hM.ptr_lt
  refine bodyPost_ret (v := sp mp i) (by simp [results, Tryz.results78, go_sem, hc0, hc1]) rfl ⟨rfl, (hM1.setCell (by simp; omega) (by simp; omega) _).setCell (by simp; omega) (by simp; omega) _, ?_⟩
  have ha := ((Only.refl (One fb) w).alloc _).trans ho1
  exact (ha.setCell (p := ⟨w.heap.size, 0, none⟩) (fun h => by simp at h) _).setCell (p := ⟨w.heap.size, 1, none⟩) (fun h => by simp at h) _
end Go.Proofs.YtfcepnhknmbaaaaGreat
