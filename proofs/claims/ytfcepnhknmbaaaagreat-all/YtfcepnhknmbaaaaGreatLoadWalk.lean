/- The contracts of Load and Store. -/
import Derived.Test.YtfcepnhknmbaaaaGreatTurnWalk
namespace Go.Proofs.YtfcepnhknmbaaaaGreat
open Go.RowKit Go.Deep
open Go.Maps (Keyed)

theorem lev_cases (M : Mm) (r p : Nat) (st : Bool) : ∀ n q, n ≤ 2 → q < 64 →
    (∃ q', q' < 64 ∧ lev M r p st n q = (M.ent r q', 0, 0) ∧ pres (M.ent r q') = true ∧ (st = true → wrib (M.ent r q') = true)) ∨ (∃ k l, lev M r p st n q = (0, k, l) ∧ 1 ≤ k ∧ k ≤ 4 ∧ 1 ≤ l ∧ l ≤ 3)
  | 0, q, _, hq => by
    rw [lev]
    by_cases hx : pres (M.ent r q) = true
    · rw [if_pos hx]
      by_cases hw : (st && !wrib (M.ent r q)) = true
      · rw [if_pos hw]
        exact Or.inr ⟨4, 3, rfl, by omega, by omega, by omega, by omega⟩
      · rw [if_neg hw]
        refine Or.inl ⟨q, hq, rfl, hx, fun e => ?_⟩
        rw [e] at hw
        simpa using hw
    · rw [if_neg hx]
      exact Or.inr ⟨3, 3, rfl, by omega, by omega, by omega, by omega⟩
  | n + 1, q, hn, hq => by
    rw [lev]
    by_cases hx : pres (M.ent r q) = true
    · rw [if_pos hx]
      by_cases hy : pres (M.W (numb (M.ent r q)) (idx (2 - n) p)) = true
      · rw [if_pos hy]
        by_cases hw : (st && !wrib (M.W (numb (M.ent r q)) (idx (2 - n) p))) = true
        · rw [if_pos hw]
          exact Or.inr ⟨2, 2 - n, rfl, by omega, by omega, by omega, by omega⟩
        · rw [if_neg hw]
          exact lev_cases M r p st n _ (by omega) (by have := numb_lt (M.W (numb (M.ent r q)) (idx (2 - n) p)); omega)
      · rw [if_neg hy]
        exact Or.inr ⟨1, 2 - n, rfl, by omega, by omega, by omega, by omega⟩
    · rw [if_neg hx]
      exact Or.inr ⟨3, 2 - n, rfl, by omega, by omega, by omega, by omega⟩

theorem turned_cases {S : MS} {H : Hs} (hI : Inv S H) {g : Int} {r : Nat} (hG : S.G g = some r) {p : Nat} (hp : p < 64) (st : Bool) :
    (∃ q', q' < 64 ∧ S.turned g r p st = (S.M.ent r q', 0, 0) ∧ pres (S.M.ent r q') = true ∧ (st = true → wrib (S.M.ent r q') = true)) ∨ (∃ k l, S.turned g r p st = (0, k, l) ∧ 1 ≤ k ∧ k ≤ 4 ∧ 1 ≤ l ∧ l ≤ 3) := by
  have := hI.rt hG
  rw [MS.turned]
  split
  · exact lev_cases _ _ _ _ 0 p (by omega) hp
  · exact lev_cases _ _ _ _ 2 _ (by omega) (by omega)

/-- A result's block, laid ahead of the walks. -/
theorem After.laid {w w1 w2 : World} {mb n : Nat} {S : MS} {H : Hs} (hM : Mach w mb S) (o : Only Nob (w.alloc (.cells #[.int .i64 0, .int .i64 0] 53)) w1) (h : After w1 w2 mb S H n) :
    w2.cell? ⟨w.heap.size, 0, none⟩ = some (.int .i64 0) ∧ w2.cell? ⟨w.heap.size, 1, none⟩ = some (.int .i64 0) ∧ w2.frozen? ⟨w.heap.size, 0, none⟩ = false ∧ w2.frozen? ⟨w.heap.size, 1, none⟩ = false ∧ w.heap.size < w2.heap.size := by
  have hno : ¬ S.own mb w.heap.size := fun q => by have := hM.own_lt q; omega
  have r0 := World.rowIs_alloc w #[.int .i64 0, .int .i64 0] 53 (fun _ => .int .i64 0) (fun i hi => by
    have hi : i < 2 := hi
    have e : i = 0 ∨ i = 1 := by omega
    rcases e with e | e <;> subst e <;> rfl)
  have r1 := h.o.row (o.row r0 (fun q => q)) hno
  exact ⟨r1.cell (by show 0 < 2; omega), r1.cell (by show 1 < 2; omega), r1.frozen 0, r1.frozen 1, r1.lt⟩

set_option maxHeartbeats 400000 in
theorem loadBad_any (w : World) (mb : Nat) (S : MS) (h : Mach w mb S) (g a : Int) (hg : In64 g) (hb : checkE S g (isAd a) ≠ 0) :
    Calls Tryz.prog 35 #[pt mb, .int .i64 g, .int .i64 a] w fun e w' => e = .returned (.tuple #[.int .i64 0, .agg #[.int .i64 0, .int .i64 0], .int .i64 (checkE S g (isAd a))]) ∧ Only Nob w w' := by
  have hb' : (checkE S g (isAd a) != 0) = true := by simp [hb]
  clear hb
  have o1 : Only Nob w (w.alloc (.cells #[.int .i64 0, .int .i64 0] 53)) := (Only.refl _ _).alloc _
  have h1 := h.nob o1
  go_enter Tryz.func35, Tryz.ntmps35
  go_wp2_with fail
  refine (isAddress_any _ a).mono ?_
  rintro e w1 ⟨rfl, rfl⟩
  go_wp2_with fail
  refine (check_any _ mb S h1 g hg _).mono ?_
  rintro e w1 ⟨rfl, ho⟩
  have r0 := World.rowIs_alloc w #[.int .i64 0, .int .i64 0] 53 (fun _ => .int .i64 0) (fun i hi => by
    have hi : i < 2 := hi
    have e : i = 0 ∨ i = 1 := by omega
    rcases e with e | e <;> subst e <;> rfl)
  have r1 := ho.row r0 (fun q => q)
  have d0 := r1.cell (i := 0) (by show 0 < 2; omega)
  have d1 := r1.cell (i := 1) (by show 1 < 2; omega)
  have d2 := r1.frozen 0
  have d3 := r1.frozen 1
  go_wp2_with fail
  refine bodyPost_ret (v := .tuple #[.int .i64 0, .agg #[.int .i64 0, .int .i64 0], .int .i64 (checkE S g (isAd a))]) (by simp [results, Tryz.results35, go_sem, d0, d1]) rfl ⟨rfl, ?_⟩
  exact (((o1.trans ho).setCell (p := ⟨w.heap.size, 0, none⟩) (fun q => absurd q (by show ¬ w.heap.size < w.heap.size; omega)) _).setCell (p := ⟨w.heap.size, 1, none⟩) (fun q => absurd q (by show ¬ w.heap.size < w.heap.size; omega)) _)

/-- The word that a Load comes to. -/
def loadW (M : Mm) (T : Int × Int × Int) (k : Nat) : Int := if T.2.1 = 0 then M.W (numb T.1) k else 0

set_option maxHeartbeats 1000000 in
theorem loadGood_any (w : World) (mb : Nat) (S : MS) (H : Hs) (hM : Mach w mb S) (hI : Inv S H) (g a : Int) (r : Nat) (hg : In64 g) (hG : S.G g = some r) (h0 : 0 ≤ a) (h1 : a < 512) (hk : S.kn + 3 < maxLen) :
    Calls Tryz.prog 35 #[pt mb, .int .i64 g, .int .i64 a] w fun e w' => e = .returned (.tuple #[.int .i64 (loadW S.M (S.turned g r (a / 8).toNat false) (a.toNat % 8)), .agg #[.int .i64 (S.turned g r (a / 8).toNat false).2.1, .int .i64 (S.turned g r (a / 8).toNat false).2.2], .int .i64 0]) ∧ After w w' mb S H 3 := by
  have hck : checkE S g (isAd a) = 0 := by simp [checkE, hG, isAd, h0, h1]
  have HC := hid hck
  have HM := hid hM
  have o1 : Only Nob w (w.alloc (.cells #[.int .i64 0, .int .i64 0] 53)) := (Only.refl _ _).alloc _
  have hM1 := hM.nob o1
  have hdiv := Int.tdiv_eq_ediv_of_nonneg h0 (b := 8)
  have hcs := turned_cases hI hG (p := (a / 8).toNat) (by omega) false
  have htn := fun w1 h1 => turn_any w1 mb S H h1 hI g (a / 8) r false hg hG (by omega) (by omega) hk
  generalize S.turned g r (a / 8).toNat false = T at *
  have HTN := hid htn
  have hpn := fun (x : Nat) (hx : x < 64) (hy : pres (S.M.ent r x) = true) => (hI.ok.pageN hG hx hy).1
  have HPN := hid hpn
  have HCS := hid hcs
  have HI := hid hI
  clear hck hM hcs hpn htn hI
  go_enter Tryz.func35, Tryz.ntmps35
  go_wp2_with fail
  refine (isAddress_any _ a).mono ?_
  rintro e w1 ⟨rfl, rfl⟩
  go_wp2_with fail
  refine (check_any _ mb S hM1 g hg _).mono ?_
  rintro e w1 ⟨rfl, ho⟩
  rw [HC.out]
  go_wp2_with fail
  refine (HTN.out w1 (hM1.nob ho)).mono ?_
  rintro e w2 ⟨rfl, hA2⟩
  have hA3 := hA2.nob ((Only.refl Nob w2).alloc (.cells #[.int .i64 T.2.1, .int .i64 T.2.2] 53))
  obtain ⟨d0, d1, d2, d3, d4⟩ := hA2.laid HM.out ho
  have hsz : w.heap.size < w1.heap.size := by have := ho.size; rw [World.size_alloc] at this; omega
  have HO := hid (o1.trans ho)
  have hlt1 := hA2.lt
  rcases HCS.out with ⟨q, hq, rfl, hx, _⟩ | ⟨k, l, rfl, hk1, hk2, hl1, hl2⟩
  · have hb := ent_bd hA2.mem r q
    have hnn := HPN.out q hq hx
    clear HCS
    go_wp2_with (go_at_call 63; refine (hA3.word _ a h0 h1 hb hnn).mono ?_; rintro e w4 ⟨rfl, ho4⟩; have hA4 := hA3.nob ho4; obtain ⟨e0, e1, e2, e3, e4⟩ := hA4.laid HM.out ho)
    refine bodyPost_ret (v := .tuple #[.int .i64 (S.M.W (numb (S.M.ent r q)) (a.toNat % 8)), .agg #[.int .i64 0, .int .i64 0], .int .i64 0]) (by simp [results, Tryz.results35, go_sem, e0, e1]) rfl ⟨?_, hA4.fin HM.out HO.out (Nat.le_refl _) hsz _ _⟩
    simp [loadW]
  · clear HCS
    have hkk : (k == 0) = false := by simp; omega
    have hA4 := hA3.nob ((Only.refl Nob _).drew)
    obtain ⟨e0, e1, e2, e3, e4⟩ := hA4.laid HM.out ho
    go_wp2_with fail
    go_region
    all_goals
      go_wp2
      refine bodyPost_ret (v := .tuple #[.int .i64 0, .agg #[.int .i64 k, .int .i64 l], .int .i64 0]) (by simp [results, Tryz.results35, go_sem, d0, d1, d4]) rfl ⟨?_, (hA2.fin HM.out HO.out (Nat.le_refl _) hsz _ _).nob (((Only.refl Nob _).alloc _).drew)⟩
      have hk0 : k ≠ 0 := by omega
      simp [loadW, hk0]

/-- Since w0 the machine's cache has turned, and its frames are M'. -/
structure AftM (w0 w : World) (mb : Nat) (S : MS) (H : Hs) (n : Nat) (M' : Mm) (kb : Option Nat) (kn : Nat) (K : Int × Int → Option Int) : Prop where
  m : Mach w mb ((S.cached kb kn K).withM M')
  i : Inv (S.cached kb kn K) H
  kn : kn ≤ S.kn + n
  kb : ∀ b, kb = some b → S.kb = some b ∨ w0.heap.size ≤ b
  o : Only (S.own mb) w0 w

def AfterM (w0 w : World) (mb : Nat) (S : MS) (H : Hs) (n : Nat) (M' : Mm) : Prop := ∃ kb kn K, AftM w0 w mb S H n M' kb kn K

theorem AfterM.rebase {w w1 w2 : World} {mb n : Nat} {S : MS} {H : Hs} {M' : Mm} (o : Only Nob w w1) (h : AfterM w1 w2 mb S H n M') : AfterM w w2 mb S H n M' := by
  obtain ⟨kb, kn, K, h⟩ := h
  refine ⟨kb, kn, K, h.m, h.i, h.kn, fun b hb => (h.kb b hb).imp id (fun q => ?_), (o.of_nob (S := S.own mb)).trans h.o⟩
  have := o.size
  omega

theorem AfterM.nob {w0 w w' : World} {mb n : Nat} {S : MS} {H : Hs} {M' : Mm} (h : AfterM w0 w mb S H n M') (o : Only Nob w w') : AfterM w0 w' mb S H n M' := by
  obtain ⟨kb, kn, K, h⟩ := h
  exact ⟨kb, kn, K, h.m.nob o, h.i, h.kn, h.kb, h.o.after o (fun _ _ q => q.elim)⟩

theorem AfterM.fin {w w1 w2 : World} {mb n B : Nat} {S : MS} {H : Hs} {M' : Mm} (hM : Mach w mb S) (o : Only Nob w w1) (h : AfterM w1 w2 mb S H n M') (hB : w.heap.size ≤ B) (hB1 : B < w1.heap.size) (u v : Value) :
    AfterM w ((w2.setCell ⟨B, 0, none⟩ u).setCell ⟨B, 1, none⟩ v) mb S H n M' := by
  obtain ⟨kb, kn, K, h⟩ := h
  have o2 : Only (One B) w2 ((w2.setCell ⟨B, 0, none⟩ u).setCell ⟨B, 1, none⟩ v) := ((Only.refl _ _).setOne 0 u).setOne 1 v
  have hs := o.size
  refine ⟨kb, kn, K, h.m.only o2 (fun b hb q => ?_), h.i, h.kn, fun b hb => (h.kb b hb).imp id (fun q => by omega), ((o.of_nob (S := S.own mb)).trans h.o).after o2 (fun b hb q => absurd q (by simp only [One]; omega))⟩
  simp only [One] at q
  rcases hb with e | e | e | e | e
  · have := hM.lt; omega
  · have := hM.mem.ptr_lt; have : ((S.cached kb kn K).withM M').mp = S.mp := rfl; omega
  · have := hM.mem.row_lt; have : ((S.cached kb kn K).withM M').fb = S.fb := rfl; omega
  · have := hM.gst.lt; have : ((S.cached kb kn K).withM M').gb = S.gb := rfl; omega
  · rcases h.kb b e with e2 | e2
    · have := hM.own_lt (Or.inr (Or.inr (Or.inr (Or.inr e2)))); omega
    · omega

theorem AfterM.laid {w w1 w2 : World} {mb n : Nat} {S : MS} {H : Hs} {M' : Mm} (hM : Mach w mb S) (o : Only Nob (w.alloc (.cells #[.int .i64 0, .int .i64 0] 53)) w1) (h : AfterM w1 w2 mb S H n M') :
    w2.cell? ⟨w.heap.size, 0, none⟩ = some (.int .i64 0) ∧ w2.cell? ⟨w.heap.size, 1, none⟩ = some (.int .i64 0) ∧ w2.frozen? ⟨w.heap.size, 0, none⟩ = false ∧ w2.frozen? ⟨w.heap.size, 1, none⟩ = false ∧ w.heap.size < w2.heap.size := by
  obtain ⟨kb, kn, K, h⟩ := h
  have hno : ¬ S.own mb w.heap.size := fun q => by have := hM.own_lt q; omega
  have r0 := World.rowIs_alloc w #[.int .i64 0, .int .i64 0] 53 (fun _ => .int .i64 0) (fun i hi => by
    have hi : i < 2 := hi
    have e : i = 0 ∨ i = 1 := by omega
    rcases e with e | e <;> subst e <;> rfl)
  have r1 := h.o.row (o.row r0 (fun q => q)) hno
  exact ⟨r1.cell (by show 0 < 2; omega), r1.cell (by show 1 < 2; omega), r1.frozen 0, r1.frozen 1, r1.lt⟩

theorem After.setWord {w0 w : World} {mb n : Nat} {S : MS} {H : Hs} (h : After w0 w mb S H n) (x a v : Int) (h0 : 0 ≤ a) (h1 : a < 512) (hv0 : 0 ≤ v) (hv1 : v ≤ 65535) (hx : 0 ≤ x ∧ x ≤ 65535) (hn : numb x < S.M.n) :
    Calls Tryz.prog 66 #[pt mb, .int .u16 x, .int .i64 a, .int .i64 v] w fun e w' => e = .returned (.tuple #[]) ∧ AfterM w0 w' mb S H n (S.M.setW (numb x) (a.toNat % 8) v) := by
  obtain ⟨kb, kn, K, h⟩ := h
  refine (msetWord_any w mb _ h.m x a v h0 h1 hv0 hv1 hx hn).mono ?_
  rintro e w' ⟨rfl, h2, o2⟩
  exact ⟨rfl, kb, kn, K, h2, h.i, h.kn, h.kb, h.o.after o2 (fun b _ q => Or.inr (Or.inr (Or.inl q)))⟩

set_option maxHeartbeats 400000 in
theorem storeBad_any (w : World) (mb : Nat) (S : MS) (h : Mach w mb S) (g a v : Int) (hg : In64 g) (hb : checkW S g a v ≠ 0) :
    Calls Tryz.prog 37 #[pt mb, .int .i64 g, .int .i64 a, .int .i64 v] w fun e w' => e = .returned (.tuple #[.agg #[.int .i64 0, .int .i64 0], .int .i64 (checkW S g a v)]) ∧ Only Nob w w' := by
  have hb' : (checkW S g a v != 0) = true := by simp [hb]
  clear hb
  have o1 : Only Nob w (w.alloc (.cells #[.int .i64 0, .int .i64 0] 53)) := (Only.refl _ _).alloc _
  have h1 := h.nob o1
  go_enter Tryz.func37, Tryz.ntmps37
  go_wp2_with fail
  refine (checkWord_any _ mb S h1 g a v hg).mono ?_
  rintro e w1 ⟨rfl, ho⟩
  have r0 := World.rowIs_alloc w #[.int .i64 0, .int .i64 0] 53 (fun _ => .int .i64 0) (fun i hi => by
    have hi : i < 2 := hi
    have e : i = 0 ∨ i = 1 := by omega
    rcases e with e | e <;> subst e <;> rfl)
  have r1 := ho.row r0 (fun q => q)
  have d0 := r1.cell (i := 0) (by show 0 < 2; omega)
  have d1 := r1.cell (i := 1) (by show 1 < 2; omega)
  have d2 := r1.frozen 0
  have d3 := r1.frozen 1
  go_wp2_with fail
  refine bodyPost_ret (v := .tuple #[.agg #[.int .i64 0, .int .i64 0], .int .i64 (checkW S g a v)]) (by simp [results, Tryz.results37, go_sem, d0, d1]) rfl ⟨rfl, ?_⟩
  exact (((o1.trans ho).setCell (p := ⟨w.heap.size, 0, none⟩) (fun q => absurd q (by show ¬ w.heap.size < w.heap.size; omega)) _).setCell (p := ⟨w.heap.size, 1, none⟩) (fun q => absurd q (by show ¬ w.heap.size < w.heap.size; omega)) _)

set_option maxHeartbeats 1000000 in
theorem storeGood_any (w : World) (mb : Nat) (S : MS) (H : Hs) (hM : Mach w mb S) (hI : Inv S H) (g a v : Int) (r : Nat) (hg : In64 g) (hG : S.G g = some r) (h0 : 0 ≤ a) (h1 : a < 512) (hv0 : 0 ≤ v) (hv1 : v ≤ 65535) (hk : S.kn + 3 < maxLen) :
    Calls Tryz.prog 37 #[pt mb, .int .i64 g, .int .i64 a, .int .i64 v] w fun e w' => e = .returned (.tuple #[.agg #[.int .i64 (S.turned g r (a / 8).toNat true).2.1, .int .i64 (S.turned g r (a / 8).toNat true).2.2], .int .i64 0]) ∧
      ((S.turned g r (a / 8).toNat true).2.1 ≠ 0 → After w w' mb S H 3) ∧ ((S.turned g r (a / 8).toNat true).2.1 = 0 → AfterM w w' mb S H 3 (S.M.setW (numb (S.turned g r (a / 8).toNat true).1) (a.toNat % 8) v)) := by
  have HC := hid (checkW_ok h0 h1 hv0 hv1 hG)
  have HM := hid hM
  have o1 : Only Nob w (w.alloc (.cells #[.int .i64 0, .int .i64 0] 53)) := (Only.refl _ _).alloc _
  have hM1 := hM.nob o1
  have hdiv := Int.tdiv_eq_ediv_of_nonneg h0 (b := 8)
  have hcs := turned_cases hI hG (p := (a / 8).toNat) (by omega) true
  have htn := fun w1 h1 => turn_any w1 mb S H h1 hI g (a / 8) r true hg hG (by omega) (by omega) hk
  generalize S.turned g r (a / 8).toNat true = T at *
  have HTN := hid htn
  have hpn := fun (x : Nat) (hx : x < 64) (hy : pres (S.M.ent r x) = true) => (hI.ok.pageN hG hx hy).1
  have HPN := hid hpn
  have HCS := hid hcs
  have HI := hid hI
  clear hM hcs hpn htn hI
  go_enter Tryz.func37, Tryz.ntmps37
  go_wp2_with fail
  refine (checkWord_any _ mb S hM1 g a v hg).mono ?_
  rintro e w1 ⟨rfl, ho⟩
  rw [HC.out]
  go_wp2_with fail
  refine (HTN.out w1 (hM1.nob ho)).mono ?_
  rintro e w2 ⟨rfl, hA2⟩
  have hA3 := hA2.nob ((Only.refl Nob w2).alloc (.cells #[.int .i64 T.2.1, .int .i64 T.2.2] 53))
  obtain ⟨d0, d1, d2, d3, d4⟩ := hA2.laid HM.out ho
  have hsz : w.heap.size < w1.heap.size := by have := ho.size; rw [World.size_alloc] at this; omega
  have HO := hid (o1.trans ho)
  have hlt1 := hA2.lt
  rcases HCS.out with ⟨q, hq, rfl, hx, _⟩ | ⟨k, l, rfl, hk1, hk2, hl1, hl2⟩
  · have hb := ent_bd hA2.mem r q
    have hnn := HPN.out q hq hx
    clear HCS
    go_wp2_with (go_at_call 66; refine (hA3.setWord _ a v h0 h1 hv0 hv1 hb hnn).mono ?_; rintro e w4 ⟨rfl, hA4⟩; obtain ⟨e0, e1, e2, e3, e4⟩ := hA4.laid HM.out ho)
    refine bodyPost_ret (v := .tuple #[.agg #[.int .i64 0, .int .i64 0], .int .i64 0]) (by simp [results, Tryz.results37, go_sem, e0, e1]) rfl ⟨rfl, hA4.fin HM.out HO.out (Nat.le_refl _) hsz _ _⟩
  · clear HCS
    have hkk : (k == 0) = false := by simp; omega
    obtain ⟨e0, e1, e2, e3, e4⟩ := hA3.laid HM.out ho
    go_wp2_with fail
    refine bodyPost_ret (v := .tuple #[.agg #[.int .i64 k, .int .i64 l], .int .i64 0]) (by simp [results, Tryz.results37, go_sem, d0, d1, d4]) rfl ⟨rfl, fun _ => (hA2.fin HM.out HO.out (Nat.le_refl _) hsz _ _).nob ((Only.refl Nob _).alloc _), fun q => ?_⟩
    have q : k = 0 := q
    omega
end Go.Proofs.YtfcepnhknmbaaaaGreat
