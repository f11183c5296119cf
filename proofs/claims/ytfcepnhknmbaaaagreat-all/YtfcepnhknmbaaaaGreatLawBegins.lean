/- The law's world: its machines ('Plays'); pick and begins. -/
import Derived.Test.YtfcepnhknmbaaaaGreatLawHolds
namespace Go.Proofs.YtfcepnhknmbaaaaGreat
open Go.RowKit Go.Deep

structure Mc where
  mb : Nat
  rb : Nat
  own : Nat → Prop

def mcCells : List Mc → List Value
  | [] => []
  | x :: D => pt x.mb :: pt x.rb :: mcCells D
theorem mcCells_len : ∀ D : List Mc, (mcCells D).length = D.length * 2
  | [] => rfl
  | x :: D => by simp only [mcCells, List.length_cons, mcCells_len D]; omega
theorem mcCells_app (x : Mc) : ∀ D : List Mc, mcCells (D ++ [x]) = mcCells D ++ [pt x.mb, pt x.rb]
  | [] => rfl
  | y :: D => by simp only [List.cons_append, mcCells, mcCells_app x D]
theorem mcCells_at : ∀ {D : List Mc} {i : Nat} {x : Mc}, D[i]? = some x → (mcCells D)[i * 2]? = some (pt x.mb) ∧ (mcCells D)[i * 2 + 1]? = some (pt x.rb)
  | y :: D, 0, x, h => by
    simp only [List.getElem?_cons_zero, Option.some.injEq] at h
    subst h
    exact ⟨rfl, rfl⟩
  | y :: D, i + 1, x, h => by
    rw [List.getElem?_cons_succ] at h
    have := mcCells_at h
    rw [show (i + 1) * 2 = i * 2 + 1 + 1 by omega]
    simpa [mcCells] using this

def pOwn (wb : Nat) (gv : Value) (D : List Mc) (b : Nat) : Prop := b = wb ∨ gv.ownBlock = some b ∨ ∃ x, x ∈ D ∧ x.own b

def wldCell (gv S : Value) (i : Nat) : Value := if i = 0 then gv else S

structure Plays (w : World) (wb : Nat) (gv S : Value) (D : List Mc) (c : Nat) : Prop where
  row : ∃ t, w.rowIs wb t 2 (wldCell gv S)
  sl : w.ownsRow 0 35 2 gv D.length (mcCells D)
  duo : ∀ x, x ∈ D → DuoAt w x.mb x.rb x.own c
  n1 : ∀ x, x ∈ D → ∀ b, x.own b → b ≠ wb ∧ gv.ownBlock ≠ some b
  n2 : gv.ownBlock ≠ some wb
  dis : D.Pairwise fun x y => ∀ b, x.own b → ¬ y.own b
  le : D.length ≤ 8

namespace Plays
variable {w w' : World} {wb : Nat} {gv S : Value} {D : List Mc} {c : Nat}
theorem c0 (h : Plays w wb gv S D c) : w.cell? ⟨wb, 0, none⟩ = some gv := by obtain ⟨t, r⟩ := h.row; exact r.cell (by omega)
theorem f0 (h : Plays w wb gv S D c) : w.frozen? ⟨wb, 0, none⟩ = false := by obtain ⟨t, r⟩ := h.row; exact r.frozen 0
theorem lt (h : Plays w wb gv S D c) : wb < w.heap.size := by obtain ⟨t, r⟩ := h.row; exact r.lt
theorem own_lt (h : Plays w wb gv S D c) {b : Nat} (hb : pOwn wb gv D b) : b < w.heap.size := by
  rcases hb with rfl | hb | ⟨x, hx, hb⟩
  · exact h.lt
  · exact (h.sl.lt b hb).2
  · exact (h.duo x hx).own_lt hb
theorem mono {c' : Nat} (h : Plays w wb gv S D c) (hc : c ≤ c') : Plays w wb gv S D c' := ⟨h.row, h.sl, fun x hx => (h.duo x hx).mono hc, h.n1, h.n2, h.dis, h.le⟩
theorem only {T : Nat → Prop} (h : Plays w wb gv S D c) (o : Only T w w') (ht : ∀ b, pOwn wb gv D b → ¬ T b) : Plays w' wb gv S D c := by
  obtain ⟨t, r⟩ := h.row
  exact ⟨⟨t, o.row r (ht _ (Or.inl rfl))⟩, owns_only h.sl o (fun b hb => ht b (Or.inr (Or.inl hb))), fun x hx => (h.duo x hx).only o (fun b hb => ht b (Or.inr (Or.inr ⟨x, hx, hb⟩))), h.n1, h.n2, h.dis, h.le⟩
theorem nob (h : Plays w wb gv S D c) (o : Only Nob w w') : Plays w' wb gv S D c := h.only o (fun _ _ q => q)
theorem shape (h : Plays w wb gv S D c) : ∃ a cap, gv = .slice a D.length cap := by
  rcases h.sl.2 with ⟨q, e⟩ | ⟨g, cap, cur, hv, _⟩
  · exact ⟨none, 0, by rw [q, e]⟩
  · exact ⟨_, cap, hv⟩
/-- The machine at a place. -/
theorem at' (h : Plays w wb gv S D c) {i : Nat} (hi : i < D.length) : ∃ sb cap, gv = .slice (some ⟨sb, 0, none⟩) D.length cap ∧ w.cell? ⟨sb, i * 2, none⟩ = some (pt D[i].mb) ∧ w.cell? ⟨sb, i * 2 + 1, none⟩ = some (pt D[i].rb) := by
  have hs := h.sl
  rcases hs.2 with ⟨_, e⟩ | ⟨g, cap, cur, hv, _⟩
  · omega
  · refine ⟨g, cap, hv, ?_⟩
    rw [hv] at hs
    have h1 := mcCells_at (List.getElem?_eq_getElem hi)
    have hl := mcCells_len D
    exact ⟨by rw [hs.cellAt _ (by omega), h1.1], by rw [hs.cellAt _ (by omega), h1.2]⟩
end Plays

set_option maxHeartbeats 400000 in
theorem lpick_any (w : World) (c n : Int) (h0 : -9223372036854775808 ≤ c) (h1 : c ≤ 9223372036854775807) (hn : 0 < n) (hn2 : n ≤ 65536) :
    Calls Tryz.prog 10 #[.int .i64 c, .int .i64 n] w fun e w' => e = .returned (.int .i64 (pickI c n)) ∧ w = w' := by
  by_cases h : c < 0
  · have HP : Hid (pickI c n = (-(c + 1)) % n) := by simp [Hid, pickI, h]
    have hm := Int.tmod_eq_emod_of_nonneg (a := -(c + 1)) (by omega) (b := n)
    go_enter Tryz.func10, Tryz.ntmps10
    go_wp2
    go_ret
    exact ⟨ret_int HP.out.symm, rfl⟩
  · have HP : Hid (pickI c n = c % n) := by simp [Hid, pickI, h]
    go_enter Tryz.func10, Tryz.ntmps10
    go_wp2
    go_ret
    exact ⟨ret_int HP.out.symm, rfl⟩

theorem mc_info : (Tryz.prog.info? 35).map (fun i => (i.zero, i.size, i.bytes)) = some (some (.agg #[.pointer none, .pointer none]), 2, 16) := by kernel_rfl

/-- The world behind a machine that has come. -/
theorem Plays.came {w w1 w2 : World} {wb : Nat} {gv v' S : Value} {D : List Mc} {c : Nat} {x : Mc} (h : Plays w wb gv S D c) (ho : Only Nob w w1) (hx : DuoAt w1 x.mb x.rb x.own c) (hn : ∀ b, x.own b → w.heap.size ≤ b) (hl : D.length < 8)
    (o1 : w2.ownsRow 0 35 2 v' (D.length + 1) (mcCells D ++ [pt x.mb, pt x.rb])) (g1 : w1.grownBy w2 gv.ownBlock) (o2 : v'.ownBlock = gv.ownBlock ∨ ∃ k, w1.heap.size ≤ k ∧ v'.ownBlock = some k) :
    w2.cell? ⟨wb, 0, none⟩ = some gv ∧ w2.frozen? ⟨wb, 0, none⟩ = false ∧ Plays (w2.setCell ⟨wb, 0, none⟩ v') wb v' S (D ++ [x]) c ∧ Left w (w2.setCell ⟨wb, 0, none⟩ v') (pOwn wb gv D) (pOwn wb v' (D ++ [x])) := by
  have hs0 := ho.size
  have hlt := h.lt
  have o12 : Only (fun b => gv.ownBlock = some b) w1 w2 := ⟨g1.os, g1.tape, g1.output, g1.size, fun k hk hn => g1.block k hk (fun e => hn e.symm)⟩
  have hb : ∀ b, v'.ownBlock = some b → gv.ownBlock = some b ∨ w1.heap.size ≤ b := fun b hb => by
    rcases o2 with e | ⟨k, hk, e⟩
    · exact Or.inl (by rw [← e]; exact hb)
    · rw [e] at hb; injection hb with hb; exact Or.inr (by omega)
  have hn2 : v'.ownBlock ≠ some wb := fun e => by
    rcases hb wb e with q | q
    · exact h.n2 q
    · omega
  obtain ⟨t, r⟩ := h.row
  have r2 : w2.rowIs wb t 2 (wldCell gv S) := o12.row (ho.row r (fun q => q)) h.n2
  have oset : Only (One wb) w2 (w2.setCell ⟨wb, 0, none⟩ v') := (Only.refl (One wb) w2).setOne 0 v'
  have hgx : ∀ b, gv.ownBlock = some b → ¬ x.own b := fun b e q => by have := (h.sl.lt b e).2; have := hn b q; omega
  have hold : ∀ y, y ∈ D → ∀ b, y.own b → b < w.heap.size := fun y hy b q => (h.duo y hy).own_lt q
  refine ⟨r2.cell (by omega), r2.frozen 0, ⟨⟨t, (r2.set 0 _).congr (fun j hj => ?_)⟩, ?_, fun y hy => ?_, fun y hy b q => ?_, hn2, ?_, by simp; omega⟩, ⟨?_, fun b q => ?_⟩⟩
  · have e : j = 0 ∨ j = 1 := by omega
    rcases e with e | e <;> subst e <;> rfl
  · rw [List.length_append, mcCells_app]
    exact owns_only o1 oset (fun b hb e => hn2 (by rw [hb, show b = wb from e]))
  · rcases List.mem_append.1 hy with q | q
    · have d1 := ((h.duo y q).only ho (fun _ _ q => q)).only o12 (fun b hb e => (h.n1 y q b hb).2 e)
      exact d1.only oset (fun b hb e => (h.n1 y q b hb).1 e)
    · rw [List.mem_singleton] at q; subst q
      exact (hx.only o12 (fun b hb e => hgx b e hb)).only oset (fun b hb e => by have := hn b hb; have : b = wb := e; omega)
  · rcases List.mem_append.1 hy with hy | hy
    · refine ⟨(h.n1 y hy b q).1, fun e => ?_⟩
      rcases hb b e with e | e
      · exact (h.n1 y hy b q).2 e
      · have := hold y hy b q; omega
    · rw [List.mem_singleton] at hy; subst hy
      have h1 := hn b q
      have h2 := hx.own_lt q
      refine ⟨by omega, fun e => ?_⟩
      rcases hb b e with e | e
      · have := (h.sl.lt b e).2; omega
      · omega
  · rw [List.pairwise_append]
    refine ⟨h.dis, by simp, fun y hy z hz b q1 q2 => ?_⟩
    rw [List.mem_singleton] at hz; subst hz
    have := hold y hy b q1
    have := hn b q2
    omega
  · exact (((ho.of_nob (S := pOwn wb gv D)).after o12 (fun b _ e => Or.inr (Or.inl e))).after oset (fun b _ e => Or.inl e))
  · rcases q with q | q | ⟨y, hy, q⟩
    · exact Or.inl (Or.inl q)
    · rcases hb b q with e | e
      · exact Or.inl (Or.inr (Or.inl e))
      · exact Or.inr (by omega)
    · rcases List.mem_append.1 hy with hy | hy
      · exact Or.inl (Or.inr (Or.inr ⟨y, hy, q⟩))
      · rw [List.mem_singleton] at hy; subst hy
        exact Or.inr (hn b q)

theorem cell_two_new (w : World) (x y : Value) (t : TypeId) : ∀ j u, [x, y][j]? = some u → (w.alloc (.cells #[x, y] t)).cell? ((⟨w.heap.size, 0, none⟩ : Addr).add j) = some u := by
  intro j u hj
  match j, hj with
  | 0, hj =>
    simp at hj
    subst hj
    simp [Addr.add]
  | 1, hj =>
    simp at hj
    subst hj
    simp [Addr.add]
  | j + 2, hj => simp at hj

def bx1 (w : World) (k on a b c d : Int) (W : Bool) (S : Value) : World :=
  w.alloc (.cells #[.int .i64 k, .int .i64 on, .int .i64 a, .int .i64 b, .int .i64 c, .int .i64 d, .bool W, S] 30)

section
variable (w : World) (wb : Nat) (gv S0 : Value) (D : List Mc) (c : Nat) (h : Plays w wb gv S0 D c) (on a b cc d : Int) (W : Bool) (S : Value)

set_option maxRecDepth 100000 in
set_option maxHeartbeats 2000000 in
theorem beginsBad_any (w : World) (wb : Nat) (gv S0 : Value) (D : List Mc) (c : Nat) (h : Plays w wb gv S0 D c) (on a b cc d : Int) (W : Bool) (S : Value) (ha : a < 4 ∨ 64 < a) :
    Calls Tryz.prog 9 #[pt wb, opV 1 on a b cc d W S] w fun e w' => e = .returned (.bool true) ∧ Plays w' wb gv S0 D c ∧ Left w w' (pOwn wb gv D) (pOwn wb gv D) := by
  have H := hid h
  clear h
  unfold opV
  go_enter Tryz.func9, Tryz.ntmps9
  go_wp2_with fail
  refine (newBad_any _ a ha).mono ?_
  rintro e w1 ⟨rfl, rfl⟩
  go_wp2_with fail
  refine (rnewBad_any _ a ha).mono ?_
  rintro e w1 ⟨rfl, rfl⟩
  go_wp2
  go_ret
  have ho : Only Nob w (bx1 w 1 on a b cc d W S) := (Only.refl _ _).alloc _
  exact ⟨rfl, H.out.nob ho, ⟨ho.of_nob, fun _ q => Or.inl q⟩⟩

set_option maxRecDepth 100000 in
set_option maxHeartbeats 4000000 in
theorem beginsGood_any (w : World) (wb : Nat) (gv S0 : Value) (D : List Mc) (c : Nat) (h : Plays w wb gv S0 D c) (on a b cc d : Int) (W : Bool) (S : Value) (h4 : 4 ≤ a) (h64 : a ≤ 64) :
    Calls Tryz.prog 9 #[pt wb, opV 1 on a b cc d W S] w fun e w' => ∃ gv' D', e = .returned (.bool true) ∧ Plays w' wb gv' S0 D' c ∧ Left w w' (pOwn wb gv D) (pOwn wb gv' D') := by
  obtain ⟨i0, hi, hzz⟩ := Option.map_eq_some_iff.1 mc_info
  simp only [Prod.mk.injEq] at hzz
  obtain ⟨hz0, hz1, hz2⟩ := hzz
  have HI := hid (And.intro hi (And.intro hz0 (And.intro hz1 hz2)))
  clear hi hz0 hz1 hz2
  have H := hid h
  obtain ⟨sa, cap, hgv⟩ := h.shape
  have HG := hid hgv
  have hle := h.le
  clear h hgv
  unfold opV
  go_enter Tryz.func9, Tryz.ntmps9
  go_wp2_with fail
  refine (absNew _ a h4 h64).mono ?_
  rintro e w1 ⟨mb, own, rfl, hrep, ho1, hnew⟩
  have hx : w1.cell? ⟨w.heap.size, 2, none⟩ = some (.int .i64 a) := ho1.keep (fun q => q) (Only.laid (w := w) (c := #[.int .i64 1, .int .i64 on, .int .i64 a, .int .i64 b, .int .i64 cc, .int .i64 d, .bool W, S]) (t := 30) (Only.refl Nob _) (fun q => q) 2)
  go_wp2_with fail
  refine (rnewGood_any _ a h4 h64).mono ?_
  rintro e w2 ⟨rfl, href, ho2⟩
  have hw1 : Only Nob w w1 := ((Only.refl Nob w).alloc _).after ho1 (fun _ _ q => q)
  have hw2 : Only Nob w w2 := hw1.after ho2 (fun _ _ q => q)
  have HW2 := hid hw2
  have hP := H.out.nob hw2
  have c0 := hP.c0
  rw [HG.out] at c0
  have hs1 := hw1.size
  have hs2 := ho2.size
  have HX : Hid (DuoAt w2 mb w1.heap.size (fun b => own b ∨ (RS.fresh a.toNat).own w1.heap.size b) c ∧ ∀ b, (own b ∨ (RS.fresh a.toNat).own w1.heap.size b) → w.heap.size ≤ b) := by
    have hfo : ∀ b, (RS.fresh a.toNat).own w1.heap.size b → b = w1.heap.size := by
      rintro b (q | q | ⟨g, q, _⟩ | ⟨g, q, _⟩)
      · exact q
      · simp [RS.fresh, Value.ownBlock] at q
      · cases q
      · cases q
    refine ⟨⟨own, Abs.fresh a.toNat, RS.fresh a.toNat, fun _ => 0, ⟨hrep.nob ho2, href, Agree.fresh _, fun b hb q => ?_, by simp [RS.fresh]; omega, Nat.zero_le _, Nat.zero_le _, Nat.zero_le _⟩, fun _ => Iff.rfl⟩, fun b hb => ?_⟩
    · have := hrep.own_lt hb
      have := hfo b q
      omega
    · rcases hb with q | q
      · have := hnew b q
        have q3 : w.heap.size ≤ (bx1 w 1 on a b cc d W S).heap.size := ((Only.refl Nob w).alloc _).size
        simp at this
        omega
      · have := hfo b q
        omega
  clear hw1 hw2 hrep hnew href ho1 ho2
  by_cases hl : D.length < 8
  · have HOWN : Hid (w2.ownsRow 0 35 2 (.slice sa D.length cap) D.length (mcCells D)) := by
      have := hP.sl
      rw [HG.out] at this
      exact this
    have HB : Hid (D.length + 1 ≤ maxLen) := by unfold Hid maxLen; omega
    have HB2 : Hid ((D.length + 1) * 16 ≤ 140737488355328) := by unfold Hid; omega
    have HP := hid hP
    clear hP
    have hl2 : (D.length : Int) < 8 := by omega
    go_wp2_with (at_builtin; refine wpList_append_own_at _ rfl _ _ 26 rfl 0 35 i0 (.agg #[.pointer none, .pointer none]) 2 16 Tryz.underlying26 HI.out.1 HI.out.2.1 HI.out.2.2.1 HI.out.2.2.2 rfl (by decide) (.slice sa D.length cap) D.length (mcCells D) rfl (HOWN.out.alloc _) ⟨w2.heap.size, 0, none⟩ 1 1 [pt mb, pt w1.heap.size] rfl rfl (cell_two_new _ _ _ _) (fun u hu => by simp at hu; rcases hu with rfl | rfl <;> rfl) HB.out HB2.out (by simp) ?_; intro v' w3 hown' hgrow hnil hloc; rw [← HG.out] at hgrow hloc; obtain ⟨sb2, cp2, rfl⟩ := owns_pos hown'; obtain ⟨x1, x2, x3, x4⟩ := H.out.came (x := ⟨mb, w1.heap.size, fun b => own b ∨ (RS.fresh a.toNat).own w1.heap.size b⟩) (HW2.out.alloc _) (HX.out.1.only ((Only.refl Nob _).alloc _) (fun _ _ q => q)) HX.out.2 hl hown' hgrow (hloc.imp id (fun e => ⟨_, Nat.le_refl _, e⟩)); rw [HG.out] at x1; have X3 := hid x3; have X4 := hid x4; clear x3 x4 hown' hgrow hloc hnil)
    go_ret
    exact ⟨_, _, rfl, X3.out, X4.out⟩
  · have HP := hid hP
    clear hP
    have hl2 : ¬ (D.length : Int) < 8 := by omega
    go_wp2
    go_ret
    exact ⟨gv, D, rfl, HP.out, ⟨HW2.out.of_nob, fun _ q => Or.inl q⟩⟩
end
end Go.Proofs.YtfcepnhknmbaaaaGreat
