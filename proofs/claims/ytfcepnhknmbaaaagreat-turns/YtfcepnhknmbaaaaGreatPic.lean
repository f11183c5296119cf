/- What bytes tell of a guest ('Pic'), as a value of the program's own type; and the contract of framesOf. -/
import Derived.Test.YtfcepnhknmbaaaaGreatMachM
import Derived.Test.YtfcepnhknmbaaaaGreatBytes
import Derived.Deep.MidRow
import Derived.Deep.WholeRow
namespace Go.Proofs.YtfcepnhknmbaaaaGreat
open Go.RowKit Go.Deep

def pageCell (P : Pic) (p i : Nat) : Value := if i = 0 then .bool (P.pr p) else if i = 1 then .bool (P.wr p) else .int .u16 (P.wd p (i - 2))
def picCell (P : Pic) (i : Nat) : Value := if i = 0 then .int .i64 P.root else pageCell P ((i - 1) / 10) ((i - 1) % 10)
def pageV (P : Pic) (p : Nat) : Array Value := #[.bool (P.pr p), .bool (P.wr p), .int .u16 (P.wd p 0), .int .u16 (P.wd p 1), .int .u16 (P.wd p 2), .int .u16 (P.wd p 3), .int .u16 (P.wd p 4), .int .u16 (P.wd p 5), .int .u16 (P.wd p 6), .int .u16 (P.wd p 7)]
def pagesV (P : Pic) : Array Value := Array.ofFn (n := 640) fun i => picCell P (i.val + 1)
def picV (P : Pic) : Array Value := Array.ofFn (n := 641) fun i => picCell P i.val
def wordsV (P : Pic) (p : Nat) : Array Value := #[.int .u16 (P.wd p 0), .int .u16 (P.wd p 1), .int .u16 (P.wd p 2), .int .u16 (P.wd p 3), .int .u16 (P.wd p 4), .int .u16 (P.wd p 5), .int .u16 (P.wd p 6), .int .u16 (P.wd p 7)]

theorem picV_size (P : Pic) : (picV P).size = 641 := by simp [picV]
theorem pagesV_size (P : Pic) : (pagesV P).size = 640 := by simp [pagesV]
theorem picV_get (P : Pic) (i : Nat) (h : i < 641) : (picV P)[i]? = some (picCell P i) := by simp [picV, h]
theorem pagesV_get (P : Pic) (i : Nat) (h : i < 640) : (pagesV P)[i]? = some (picCell P (i + 1)) := by simp [pagesV, h]
theorem pageV_get (P : Pic) (p i : Nat) (h : i < 10) : (pageV P p)[i]? = some (pageCell P p i) := by
  have e : i = 0 ∨ i = 1 ∨ i = 2 ∨ i = 3 ∨ i = 4 ∨ i = 5 ∨ i = 6 ∨ i = 7 ∨ i = 8 ∨ i = 9 := by omega
  rcases e with e | e | e | e | e | e | e | e | e | e <;> subst e <;> rfl
theorem pageV_one (P : Pic) (p : Nat) : (pageV P p).all (·.oneCell') = true := by simp [pageV, Value.oneCell']

theorem pages_extract (P : Pic) (k : Nat) (h : k < 64) : (pagesV P).extract (k * 10) (k * 10 + 10) = pageV P k := by
  apply Array.ext_getElem?
  intro i
  rw [Array.getElem?_extract, pagesV_size]
  by_cases hi : i < 10
  · rw [if_pos (by omega), pagesV_get P _ (by omega), pageV_get P k i hi]
    simp only [picCell]
    rw [if_neg (by omega), show (k * 10 + i + 1 - 1) / 10 = k by omega, show (k * 10 + i + 1 - 1) % 10 = i by omega]
  · rw [if_neg (by omega)]
    symm
    rw [Array.getElem?_eq_none_iff]
    simp [pageV]
    omega

theorem info101 : (Tryz.prog.info? 88).map (·.size) = some 10 := by kernel_rfl
theorem info102 : (Tryz.prog.info? 89).map (·.size) = some 640 := by kernel_rfl

theorem run_page (P : Pic) (k : Nat) (h : k < 64) (w : World) : (Instr.index 89 (.agg (pagesV P)) (.int .i64 k)).run Tryz.prog w = .ok (.agg (pageV P k)) w := by
  have hs : ∀ w, (sizeOf 88).run Tryz.prog w = .ok 10 w := fun _ => by kernel_rfl
  have ha : ∀ w, (isAgg 88).run Tryz.prog w = .ok true w := fun _ => by kernel_rfl
  have h0 : (0 : Int) ≤ k ∧ (k : Int) < ((64 : Nat) : Int) := by omega
  simp only [Instr.index, Sem.run_bind, asIntOf, Sem.run_pure, Result.andThen_ok, run_underlying Tryz.underlying89]
  rw [if_pos h0]
  simp only [Sem.run_bind, hs, part, ha, Result.andThen_ok, if_true, Sem.run_pure, Int.toNat_natCast, pages_extract P k h]

theorem rowIs_pages {w : World} {b : Nat} {t : TypeId} {P : Pic} (h : w.rowIs b t 641 (picCell P)) : w.rangeAt b 1 (pagesV P).toList := by
  intro j v hv
  rw [Array.getElem?_toList] at hv
  have hj : j < 640 := by
    rcases Nat.lt_or_ge j 640 with q | q
    · exact q
    · rw [Array.getElem?_eq_none_iff.2 (by rw [pagesV_size]; exact q)] at hv
      cases hv
  rw [pagesV_get P j hj] at hv
  rw [← hv, h.cell (by omega), Nat.add_comm]

theorem run_pages {w : World} {b : Nat} {t : TypeId} {P : Pic} (h : w.rowIs b t 641 (picCell P)) : (Instr.loadAt 89 (.pointer (some ⟨b, 1, none⟩))).run Tryz.prog w = .ok (.agg (pagesV P)) w := by
  have := run_loadAt_mid w b 1 89 (pagesV P).toList _ (rowIs_pages h) Tryz.underlying89 rfl (by rw [info102]; simp [pagesV_size])
  simpa using this

theorem picRow (w : World) (P : Pic) (t : TypeId) : (w.alloc (.cells (picV P) t)).rowIs w.heap.size t 641 (picCell P) := by
  have := World.rowIs_alloc w (picV P) t (picCell P) (fun i hi => picV_get P i (by rw [picV_size] at hi; exact hi))
  rw [picV_size] at this
  exact this
/-- The last group, of the pages below k, that has a page; -1: none. -/
def Pic.grpTo (P : Pic) : Nat → Int
  | 0 => -1
  | k + 1 => if P.pr k then ((k / 8 : Nat) : Int) else P.grpTo k
/-- The frames of a root, the pages below k, and their tables. -/
def Pic.frTo (P : Pic) : Nat → Nat
  | 0 => 1
  | k + 1 => if P.pr k then (if ((k / 8 : Nat) : Int) = P.grpTo k then P.frTo k + 1 else P.frTo k + 2) else P.frTo k
theorem Pic.frTo_le (P : Pic) (k : Nat) : P.frTo k ≤ 2 * k + 1 := by
  induction k with
  | zero => simp [Pic.frTo]
  | succ k ih => simp only [Pic.frTo]; split <;> (try split) <;> omega
def Pic.frames (P : Pic) : Nat := P.frTo 64

set_option maxRecDepth 100000 in
set_option maxHeartbeats 400000 in
theorem framesOf_any (w : World) (P : Pic) :
    Calls Tryz.prog 77 #[.agg (picV P)] w fun e w' => e = .returned (.int .i64 P.frames) ∧ Only Nob w w' := by
  have hr := picRow w P 91
  have hl := run_pages hr
  have hx := run_page P
  have hz : ∀ w, (zeroValue 88).run Tryz.prog w = .ok (.agg #[.bool false, .bool false, .int .u16 0, .int .u16 0, .int .u16 0, .int .u16 0, .int .u16 0, .int .u16 0, .int .u16 0, .int .u16 0]) w := fun _ => by kernel_rfl
  have hst : ∀ (k : Nat) (b : Bool), P.pr k = b → ∀ w : World, (storeCells ⟨w.heap.size, 0, none⟩ (pageV P k).toList 0).run Tryz.prog (w.alloc (.cells #[.bool false, .bool false, .int .u16 0, .int .u16 0, .int .u16 0, .int .u16 0, .int .u16 0, .int .u16 0, .int .u16 0, .int .u16 0] 88)) = .ok () (w.alloc (.cells #[.bool b, .bool (P.wr k), .int .u16 (P.wd k 0), .int .u16 (P.wd k 1), .int .u16 (P.wd k 2), .int .u16 (P.wd k 3), .int .u16 (P.wd k 4), .int .u16 (P.wd k 5), .int .u16 (P.wd k 6), .int .u16 (P.wd k 7)] 88)) := fun k b h w => by subst h; exact run_storeCells_new w 88 _ _ (by rw [info101]; rfl) rfl (pageV_one P k)
  go_enter Tryz.func77, Tryz.ntmps77
  go_wp2
  refine wp_load_mid 89 (.tmp 7) rfl w.heap.size 1 rfl (pagesV P).toList _ (rowIs_pages hr) Tryz.underlying89 rfl (by rw [info102]; simp [pagesV_size]) ?_
  go_wp2
  go_loopw [3, 4, 9] (fun s3 s4 s9 wr => ∃ k : Nat, k ≤ 64 ∧ s9 = .int .i64 k ∧ s3 = .int .i64 (P.frTo k) ∧ s4 = .int .i64 (P.grpTo k) ∧ Only Nob w wr) (fun _ _ s9 _ => 64 - (intOf s9).toNat)
  case atStart => exact ⟨0, by omega, rfl, rfl, rfl, (Only.refl _ _).alloc _⟩
  case round =>
    obtain ⟨k, hk, rfl, rfl, rfl, hO⟩ := hrel
    clear hr hl
    have hfl := P.frTo_le k
    by_cases hlt : k < 64
    · have hxk := hx k hlt
      have hstk := hst k
      clear hx hst
      cases hb : P.pr k with
      | false =>
        have hstb := hstk _ hb
        have H3 : Hid (P.frTo (k + 1) = P.frTo k) := by simp [Hid, Pic.frTo, hb]
        have H4 : Hid (P.grpTo (k + 1) = P.grpTo k) := by simp [Hid, Pic.grpTo, hb]
        go_wp2
        go_roundw
        case rel => exact ⟨k + 1, by omega, by go_num, by rw [H3.out], by rw [H4.out], hO.alloc _⟩
        case measure => simp [intOf]; omega
      | true =>
        have hstb := hstk _ hb
        have H4 : Hid (P.grpTo (k + 1) = ((k / 8 : Nat) : Int)) := by simp [Hid, Pic.grpTo, hb]
        by_cases hg : ((k / 8 : Nat) : Int) = P.grpTo k
        · have hg' : ((k : Int) / 8 != P.grpTo k) = false := by rw [← hg]; simp
          have H3 : Hid (P.frTo (k + 1) = P.frTo k + 1) := by simp only [Hid, Pic.frTo, hb, hg, if_true]
          have H5 := hid hg
          clear hg
          go_wp2
          go_roundw
          case rel => exact ⟨k + 1, by omega, by go_num, by rw [H3.out]; go_num, by rw [H4.out, H5.out], hO.alloc _⟩
          case measure => simp [intOf]; omega
        · have hg' : ((k : Int) / 8 != P.grpTo k) = true := by
            have : ¬ (k : Int) / 8 = P.grpTo k := by
              intro e; exact hg (by rw [← e]; simp)
            simpa using this
          have H3 : Hid (P.frTo (k + 1) = P.frTo k + 2) := by simp only [Hid, Pic.frTo, hb, hg, if_true, if_false]
          clear hg
          go_wp2
          go_roundw
          case rel => exact ⟨k + 1, by omega, by go_num, by rw [H3.out]; go_num, by rw [H4.out]; go_num, hO.alloc _⟩
          case measure => simp [intOf]; omega
    · go_wp2
      go_ret
      have : k = 64 := by omega
      exact ⟨by rw [this]; rfl, hO⟩
theorem info104 : (Tryz.prog.info? 91).map (fun i => (i.zero, i.size)) = some (some (.agg (picV (zeroPic 0))), 641) := by kernel_rfl

theorem wordsV_get (P : Pic) (p k : Nat) (h : k < 8) : (wordsV P p)[k]? = some (.int .u16 (P.wd p k)) := by
  have e : k = 0 ∨ k = 1 ∨ k = 2 ∨ k = 3 ∨ k = 4 ∨ k = 5 ∨ k = 6 ∨ k = 7 := by omega
  rcases e with e | e | e | e | e | e | e | e <;> subst e <;> rfl

theorem run_word (P : Pic) (p k : Nat) (h : k < 8) (w : World) : (Instr.index 86 (.agg (wordsV P p)) (.int .i64 k)).run Tryz.prog w = .ok (.int .u16 (P.wd p k)) w := by
  have hs : ∀ w, (sizeOf 85).run Tryz.prog w = .ok 1 w := fun _ => by kernel_rfl
  have ha : ∀ w, (isAgg 85).run Tryz.prog w = .ok false w := fun _ => by kernel_rfl
  have h0 : (0 : Int) ≤ k ∧ (k : Int) < ((8 : Nat) : Int) := by omega
  simp only [Instr.index, Sem.run_bind, asIntOf, Sem.run_pure, Result.andThen_ok, run_underlying Tryz.underlying86]
  rw [if_pos h0]
  simp only [Sem.run_bind, hs, part, ha, Result.andThen_ok, Int.toNat_natCast, Nat.mul_one, wordsV_get P p k h]
  rfl

def Mm.fillTo (M : Mm) (f : Nat) (ws : Nat → Int) : Nat → Mm
  | 0 => M
  | k + 1 => (M.fillTo f ws k).setW f k (ws k)
theorem fillTo_n (M : Mm) (f : Nat) (ws : Nat → Int) (k : Nat) : (M.fillTo f ws k).n = M.n := by
  induction k with
  | zero => rfl
  | succ k ih => exact ih

set_option maxRecDepth 100000 in
set_option maxHeartbeats 400000 in
theorem fill_any (w : World) (mb : Nat) (S : MS) (h : Mach w mb S) (i : Nat) (P : Pic) (p : Nat) (hi : S.M.first = some i) (hw : ∀ k, k < 8 → 0 ≤ P.wd p k ∧ P.wd p k ≤ 65535) :
    Calls Tryz.prog 79 #[pt mb, .agg (wordsV P p)] w fun e w' => e = .returned (.int .i64 i) ∧ Mem w' S.mp S.fb ((S.M.take i).fillTo i (P.wd p) 8) ∧ Only (One S.fb) w w' := by
  have hc0 := h.c0
  have HI := hid hi
  have hle := h.mem.le
  have hin := (first_lt hi).1
  have hn2 := h.n2
  have hmb := h.lt
  have hlt := h.mem.row_lt
  have hx : ∀ k : Nat, k < 8 → ∀ w : World, (Instr.index 86 (.agg #[.int .u16 (P.wd p 0), .int .u16 (P.wd p 1), .int .u16 (P.wd p 2), .int .u16 (P.wd p 3), .int .u16 (P.wd p 4), .int .u16 (P.wd p 5), .int .u16 (P.wd p 6), .int .u16 (P.wd p 7)]) (.int .i64 k)).run Tryz.prog w = .ok (.int .u16 (P.wd p k)) w := run_word P p
  clear hi
  go_enter Tryz.func79, Tryz.ntmps79
  go_wp2_with fail
  refine (take_any (mp := S.mp) (fb := S.fb) (M := S.M) _ i (h.mem.alloc _) HI.out).mono ?_
  rintro e w1 ⟨rfl, hM1, ho1⟩
  have hO1 : Only (One S.fb) w w1 := ((Only.refl (One S.fb) w).alloc _).trans ho1
  have k0 := ho1.laid (c := wordsV P p) (fun h => by simp [One] at h; omega)
  have hd0 : w1.cell? ⟨mb, 0, none⟩ = some (pt S.mp) := hO1.keep (p := ⟨mb, 0, none⟩) (fun h => hn2 h) hc0
  have q0 : w1.cell? ⟨w.heap.size, 0, none⟩ = some (.int .u16 (P.wd p 0)) := k0 0
  have q1 : w1.cell? ⟨w.heap.size, 1, none⟩ = some (.int .u16 (P.wd p 1)) := k0 1
  have q2 : w1.cell? ⟨w.heap.size, 2, none⟩ = some (.int .u16 (P.wd p 2)) := k0 2
  have q3 : w1.cell? ⟨w.heap.size, 3, none⟩ = some (.int .u16 (P.wd p 3)) := k0 3
  have q4 : w1.cell? ⟨w.heap.size, 4, none⟩ = some (.int .u16 (P.wd p 4)) := k0 4
  have q5 : w1.cell? ⟨w.heap.size, 5, none⟩ = some (.int .u16 (P.wd p 5)) := k0 5
  have q6 : w1.cell? ⟨w.heap.size, 6, none⟩ = some (.int .u16 (P.wd p 6)) := k0 6
  have q7 : w1.cell? ⟨w.heap.size, 7, none⟩ = some (.int .u16 (P.wd p 7)) := k0 7
  clear k0 ho1
  go_wp2_with fail
  go_loopw [14] (fun c wr => ∃ k : Nat, k ≤ 8 ∧ c = .int .i64 k ∧ Mem wr S.mp S.fb ((S.M.take i).fillTo i (P.wd p) k) ∧ Only (One S.fb) w wr ∧ wr.cell? ⟨mb, 0, none⟩ = some (pt S.mp)) (fun c _ => 8 - (intOf c).toNat)
  case atStart => exact ⟨0, by omega, rfl, hM1, hO1, hd0⟩
  case round =>
    clear hd0 q0 q1 q2 q3 q4 q5 q6 q7 hM1 hO1
    obtain ⟨k, hk, rfl, hMk, hOk, hd0⟩ := hrel
    by_cases hlt2 : k < 8
    · have hxk := hx k hlt2
      have hwk := hw k hlt2
      have hnk := fillTo_n (S.M.take i) i (P.wd p) k
      have hnt : (S.M.take i).n = S.M.n := rfl
      go_wp2_with fail
      refine (setWord_any (mp := S.mp) (fb := S.fb) (M := (S.M.take i).fillTo i (P.wd p) k) _ i k (P.wd p k) hMk (by omega) (by omega) (by omega) (by omega) hwk.1 hwk.2).mono ?_
      rintro e w2 ⟨rfl, hM2, ho2⟩
      rw [Int.toNat_natCast, Int.toNat_natCast] at hM2
      have hd1 : w2.cell? ⟨mb, 0, none⟩ = some (pt S.mp) := ho2.keep (p := ⟨mb, 0, none⟩) (fun h => hn2 h) hd0
      go_wp2_with fail
      go_roundw
      case rel => exact ⟨k + 1, by omega, by go_num, hM2, hOk.trans ho2, hd1⟩
      case measure => simp [intOf]; omega
    · have e8 : k = 8 := by omega
      subst e8
      go_wp2_with fail
      go_ret
      exact ⟨rfl, hMk, hOk⟩
end Go.Proofs.YtfcepnhknmbaaaaGreat
