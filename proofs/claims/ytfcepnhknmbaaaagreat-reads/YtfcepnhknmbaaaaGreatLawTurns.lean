/- The law's step 'turns': Share, Root, Load, Store: the two machines answer the same, and go on agreeing. -/
import Derived.Test.YtfcepnhknmbaaaaGreatLawHolds
import Derived.Test.YtfcepnhknmbaaaaGreatRefAgreeB
namespace Go.Proofs.YtfcepnhknmbaaaaGreat
open Go.RowKit Go.Deep

theorem Duo.boxd {w w1 : World} {mb rb : Nat} {oa oa' : Nat → Prop} {A : Abs} {R : RS} {psi : Int → Nat} {n : Nat} {k on a b c d : Int} {W : Bool} {S : Value} (h : Duo w mb rb oa A R psi n) (l1 : Left (bx w mb rb k on a b c d W S) w1 oa oa') : w1.cell? ⟨w.heap.size + 1, 5, none⟩ = some (.int .i64 d) :=
  h.box l1 (Nat.le_succ _) (bx_o _ _ _ _ _ _ _ _ _ _ _ 5)

theorem rooted_own {R : RS} {rb gb : Nat} {r : Int} {x : Nat} (h : (R.rooted gb r).own rb x) : R.own rb x := by
  rcases h with h | h | h | h
  · exact Or.inl h
  · exact Or.inr (Or.inl h)
  · exact Or.inr (Or.inr (Or.inl (rooted_isGs.1 h)))
  · exact Or.inr (Or.inr (Or.inr (rooted_isPg.1 h)))

section
variable (w : World) (mb rb : Nat) (own : Nat → Prop) (c : Nat) (h : DuoAt w mb rb own c) (on a b cc d : Int) (W : Bool) (S : Value)

set_option maxRecDepth 100000 in
set_option maxHeartbeats 2000000 in
theorem turnsRoot_any (w : World) (mb rb : Nat) (own : Nat → Prop) (c : Nat) (h : DuoAt w mb rb own c) (on a b cc d : Int) (W : Bool) (S : Value) (ha : In64 a) :
    Calls Tryz.prog 13 #[mcV mb rb, opV 10 on a b cc d W S] w fun e w' => e = .returned (.bool true) ∧ ∃ own', DuoAt w' mb rb own' (c + 1) ∧ Left w w' own own' := by
  obtain ⟨oa, A, R, psi, hD, hown⟩ := h
  have HD := hid hD
  have h0 := hid (hD.only (bx_only w mb rb 10 on a b cc d W S) (fun _ _ q => q) (fun _ _ q => q))
  have hcell := hid (fun (w1 : World) (oa' : Nat → Prop) (l1 : Left (bx w mb rb 10 on a b cc d W S) w1 oa oa') => hD.boxes l1)
  clear hD
  unfold mcV opV
  have HC := hid (absRoot h0.out.rep a b ha)
  have HCODE := hid (HD.out.ag.rootCode a b)
  go_enter Tryz.func13, Tryz.ntmps13
  go_wp2_with fail
  refine HC.out.mono ?_
  rintro e w1 ⟨oa', A', rfl, rep1, l1, hA0, hA1⟩
  have HA0 := hid hA0
  have HA1 := hid hA1
  clear hA0 hA1
  have hB := hcell.out w1 oa' l1
  have hm := hB.m
  have hx := hB.a
  have hx2 := hB.b
  have hr1 := (h0.out.mid l1).1
  go_wp2_with fail
  refine (rroot_any _ rb R hr1 a b).mono ?_
  rintro e w2 ⟨R', rfl, hr2, o2, hR0, hR1⟩
  have HR0 := hid hR0
  have HR1 := hid hR1
  clear hR0 hR1
  rw [HCODE.out]
  have hcc := HCODE.out
  have HZ : Hid (Agree A' R' psi ∧ A'.kn ≤ 70 * (c + 1) ∧ R'.n = R.n ∧ R'.last = R.last ∧ R'.made = R.made ∧ ∀ x, R'.own rb x → R.own rb x) := by
    by_cases hz : A.rootCode a b = 0
    · have e1 := HA0.out hz
      subst e1
      obtain ⟨G, hf, rfl⟩ := HR0.out (by rw [hcc]; exact hz)
      obtain ⟨q1, q2, _⟩ := HD.out.ag.found hf
      obtain ⟨_, b0, b1⟩ := check_rt hz
      have hag := HD.out.ag.rooted hr1 q1 ⟨b0, b1⟩
      rw [q2] at hag
      refine ⟨hag, ?_, rfl, rfl, rfl, fun x q => rooted_own q⟩
      have := HD.out.kn; show A.kn ≤ 70 * (c + 1); omega
    · have e1 := HA1.out hz
      have e2 := HR1.out (by rw [hcc]; exact hz)
      subst e1 e2
      exact ⟨HD.out.ag, by have := HD.out.kn; omega, rfl, rfl, rfl, fun _ q => q⟩
  clear hcc HA0 HA1 HR0 HR1
  generalize A.rootCode a b = code at *
  go_wp2
  go_ret
  obtain ⟨z1, z2, z3, z4, z5, z6⟩ := HZ.out
  refine ⟨by simp, HD.out.done hown (bx_only w mb rb 10 on a b cc d W S) l1 rep1 hr2 o2 (fun x q => Or.inl (z6 x q)) z1 z3 z2 ?_ ?_⟩
  · have := HD.out.last; omega
  · have := HD.out.made; omega

/-- The document's Share, both ways. -/
theorem rshare_any {w : World} {rb : Nat} {R : RS} (h : Refm w rb R) (hn : R.n ≤ 64) (n p m q : Int) (W : Bool) :
    Calls Tryz.prog 32 #[pt rb, .int .i64 n, .int .i64 p, .int .i64 m, .int .i64 q, .bool W] w fun e w' => ∃ R', e = .returned (.int .i64 (R.shareCode n p m q W)) ∧ Refm w' rb R' ∧ Only (R.own rb) w w' ∧
      (R.shareCode n p m q W = 0 → ∃ f t x, findFrom R.L n = some f ∧ findFrom R.L m = some t ∧ 0 ≤ p ∧ p < 64 ∧ f.P p.toNat = some x ∧ R' = R.set t.gb q.toNat (some x) W) ∧ (R.shareCode n p m q W ≠ 0 → R' = R) := by
  by_cases hz : R.shareCode n p m q W = 0
  · have hc := hz
    simp only [RS.shareCode] at hc
    cases hf : findFrom R.L n with
    | none => rw [hf] at hc; simp at hc
    | some f =>
      cases ht : findFrom R.L m with
      | none => rw [hf, ht] at hc; simp at hc
      | some t =>
        rw [hf, ht] at hc
        have hc : (if (pgOk p && pgOk q) = true then (match f.P p.toNat with | none => (7 : Int) | some _ => if W && !f.Wr p.toNat then 8 else if (t.P q.toNat).isSome then 6 else if R.free < t.takes (q.toNat / 8) then 3 else 0) else 5) = 0 := hc
        by_cases hpk : (pgOk p && pgOk q) = true
        · rw [if_pos hpk] at hc
          have hpp : isPg p = true ∧ isPg q = true := by simpa [pgOk] using hpk
          have hp : 0 ≤ p ∧ p < 64 := by simpa [isPg] using hpp.1
          have hq : 0 ≤ q ∧ q < 64 := by simpa [isPg] using hpp.2
          cases hx : f.P p.toNat with
          | none => rw [hx] at hc; simp at hc
          | some x =>
            rw [hx] at hc
            have hc : (if W && !f.Wr p.toNat then (8 : Int) else if (t.P q.toNat).isSome then 6 else if R.free < t.takes (q.toNat / 8) then 3 else 0) = 0 := hc
            by_cases h8 : (W && !f.Wr p.toNat) = true
            · rw [if_pos h8] at hc; omega
            · rw [if_neg h8] at hc
              by_cases h6 : (t.P q.toNat).isSome = true
              · rw [if_pos h6] at hc; omega
              · rw [if_neg h6] at hc
                by_cases h3 : R.free < t.takes (q.toNat / 8)
                · rw [if_pos h3] at hc; omega
                · refine (rshareGood_any w rb R h hn n p m q W f t x hf ht hp.1 hp.2 hq.1 hq.2 hx (by simpa using h8) (by simpa using h6) h3).mono ?_
                  rintro e w' ⟨rfl, hr, o⟩
                  exact ⟨_, by rw [hz], hr, o, fun _ => ⟨f, t, x, rfl, rfl, hp.1, hp.2, hx, rfl⟩, fun q => absurd hz q⟩
        · rw [if_neg hpk] at hc
          omega
  · refine (rshareBad_any w rb R h hn n p m q W hz).mono ?_
    rintro e w' ⟨rfl, o⟩
    exact ⟨R, rfl, h.nob o, o.of_nob, fun q => absurd q hz, fun _ => rfl⟩

set_option maxRecDepth 100000 in
set_option maxHeartbeats 2000000 in
theorem turnsShare_any (w : World) (mb rb : Nat) (own : Nat → Prop) (c : Nat) (h : DuoAt w mb rb own c) (on a b cc d : Int) (W : Bool) (S : Value) (hc : c < big) (ha : In64 a) (hcc64 : In64 cc) :
    Calls Tryz.prog 13 #[mcV mb rb, opV 9 on a b cc d W S] w fun e w' => e = .returned (.bool true) ∧ ∃ own', DuoAt w' mb rb own' (c + 1) ∧ Left w w' own own' := by
  obtain ⟨oa, A, R, psi, hD, hown⟩ := h
  have HD := hid hD
  have h0 := hid (hD.only (bx_only w mb rb 9 on a b cc d W S) (fun _ _ q => q) (fun _ _ q => q))
  have hcell := hid (fun (w1 : World) (oa' : Nat → Prop) (l1 : Left (bx w mb rb 9 on a b cc d W S) w1 oa oa') => (⟨hD.boxes l1, hD.boxd l1⟩ : _ ∧ _))
  have HF : Hid (R.free = A.free) := hD.ag.free hD.rep
  clear hD
  unfold mcV opV
  have HC := hid (absShare h0.out.rep a b cc d W ha hcc64 (by have := kn_lt3 HD.out.kn hc; omega))
  have HCODE := hid (HD.out.ag.shareCode HF.out a b cc d W)
  go_enter Tryz.func13, Tryz.ntmps13
  go_wp2_with fail
  refine HC.out.mono ?_
  rintro e w1 ⟨oa', A', rfl, rep1, l1, hA0, hA1⟩
  have HA0 := hid hA0
  have HA1 := hid hA1
  clear hA0 hA1
  obtain ⟨hB, hx5⟩ := hcell.out w1 oa' l1
  have hm := hB.m
  have hx := hB.a
  have hx2 := hB.b
  have hx3 := hB.c
  have hx4 := hB.W
  have hr1 := (h0.out.mid l1).1
  go_wp2_with fail
  refine (rshare_any hr1 HD.out.n64 a b cc d W).mono ?_
  rintro e w2 ⟨R', rfl, hr2, o2, hR0, hR1⟩
  have HR0 := hid hR0
  have HR1 := hid hR1
  clear hR0 hR1
  rw [HCODE.out]
  have hcc := HCODE.out
  have HZ : Hid (Agree A' R' psi ∧ A'.kn ≤ 70 * (c + 1) ∧ R'.n = R.n ∧ R'.last = R.last ∧ R'.made = R.made ∧ ∀ x, R'.own rb x → R.own rb x) := by
    by_cases hz : A.shareCode a b cc d W = 0
    · obtain ⟨fr, wb, e1, rfl⟩ := HA0.out hz
      obtain ⟨F, T, x, hf, ht, p0, p1, hP, rfl⟩ := HR0.out (by rw [hcc]; exact hz)
      obtain ⟨q1, q2, _⟩ := HD.out.ag.found hf
      obtain ⟨t1, t2, _⟩ := HD.out.ag.found ht
      have hpb : R.isPg x := ⟨F, q1, b.toNat, by omega, hP⟩
      have hpg := HD.out.ag.pg F q1 b.toNat (by omega)
      rw [q2, hP, e1] at hpg
      injection hpg with hpg
      injection hpg with hpg _
      have hag := HD.out.ag.shared hr1 t1 (p := d.toNat) (b := W) hpb
      rw [t2, ← hpg] at hag
      refine ⟨hag, ?_, rfl, rfl, rfl, fun y q => ?_⟩
      · have := HD.out.kn; show A.kn + 2 ≤ 70 * (c + 1); omega
      · rcases set_own q with q | q
        · exact q
        · injection q with q
          rw [← q]
          exact Or.inr (Or.inr (Or.inr hpb))
    · have e1 := HA1.out hz
      have e2 := HR1.out (by rw [hcc]; exact hz)
      subst e1 e2
      exact ⟨HD.out.ag.up 2, by have := HD.out.kn; show A.kn + 2 ≤ 70 * (c + 1); omega, rfl, rfl, rfl, fun _ q => q⟩
  clear hcc HA0 HA1 HR0 HR1
  generalize A.shareCode a b cc d W = code at *
  go_wp2
  go_ret
  obtain ⟨z1, z2, z3, z4, z5, z6⟩ := HZ.out
  refine ⟨by simp, HD.out.done hown (bx_only w mb rb 9 on a b cc d W S) l1 rep1 hr2 o2 (fun x q => Or.inl (z6 x q)) z1 z3 z2 ?_ ?_⟩
  · have := HD.out.last; omega
  · have := HD.out.made; omega

set_option maxRecDepth 100000 in
set_option maxHeartbeats 2000000 in
theorem turnsLoad_any (w : World) (mb rb : Nat) (own : Nat → Prop) (c : Nat) (h : DuoAt w mb rb own c) (on a b cc d : Int) (W : Bool) (S : Value) (hc : c < big) (ha : In64 a) :
    Calls Tryz.prog 13 #[mcV mb rb, opV 11 on a b cc d W S] w fun e w' => e = .returned (.bool true) ∧ ∃ own', DuoAt w' mb rb own' (c + 1) ∧ Left w w' own own' := by
  obtain ⟨oa, A, R, psi, hD, hown⟩ := h
  have HD := hid hD
  have h0 := hid (hD.only (bx_only w mb rb 11 on a b cc d W S) (fun _ _ q => q) (fun _ _ q => q))
  have hcell := hid (fun (w1 : World) (oa' : Nat → Prop) (l1 : Left (bx w mb rb 11 on a b cc d W S) w1 oa oa') => hD.boxes l1)
  clear hD
  unfold mcV opV
  have HC := hid (absLoad h0.out.rep a b ha (kn_lt3 HD.out.kn hc))
  have HCODE := hid (HD.out.ag.loadAt a b)
  have HBD := hid (HD.out.ag.bdd HD.out.rep)
  go_enter Tryz.func13, Tryz.ntmps13
  go_wp2_with fail
  refine HC.out.mono ?_
  rintro e w1 ⟨oa', rfl, rep1, l1⟩
  have hB := hcell.out w1 oa' l1
  have hm := hB.m
  have hx := hB.a
  have hx2 := hB.b
  have hs1 : w.heap.size + 2 ≤ w1.heap.size := by
    have q := l1.only.size
    have e : (bx w mb rb 11 on a b cc d W S).heap.size = w.heap.size + 2 := by simp only [bx, World.size_alloc]
    omega
  have hs2 : w.heap.size < w1.heap.size := by omega
  have hs3 : w.heap.size + 1 < w1.heap.size := by omega
  have hr1 := (h0.out.mid l1).1
  have HR1 := hid (hr1.nob ((Only.refl Nob w1).alloc (.cells #[.int .i64 (A.loadAt a b).2.1, .int .i64 (A.loadAt a b).2.2.1] 53)))
  have HRW := hid (row50 w1 (A.loadAt a b).2.1 (A.loadAt a b).2.2.1)
  go_wp2_with fail
  refine (rload_any _ rb R HR1.out HBD.out HD.out.ag.rts a b).mono ?_
  rintro e w2 ⟨rfl, o2⟩
  rw [HCODE.out]
  have r2 := o2.row HRW.out (fun q => q)
  have d0 : w2.cell? ⟨w1.heap.size, 0, none⟩ = some (.int .i64 (A.loadAt a b).2.1) := r2.cell (i := 0) (by omega)
  have d1 : w2.cell? ⟨w1.heap.size, 1, none⟩ = some (.int .i64 (A.loadAt a b).2.2.1) := r2.cell (i := 1) (by omega)
  have d2 := r2.lt
  generalize (A.loadAt a b).1 = x1 at *
  generalize (A.loadAt a b).2.1 = x2 at *
  generalize (A.loadAt a b).2.2.1 = x3 at *
  generalize (A.loadAt a b).2.2.2 = x4 at *
  go_wp2
  go_ret
  have o3 : Only (R.own rb) w1 (w2.alloc (.cells #[.int .i64 x2, .int .i64 x3] 53)) := (((Only.refl (R.own rb) w1).alloc _).after o2 (fun _ _ q => q.elim)).alloc _
  refine ⟨by simp, HD.out.done hown (bx_only w mb rb 11 on a b cc d W S) l1 rep1 ((HR1.out.nob o2).nob ((Only.refl Nob _).alloc _)) o3 (fun _ q => Or.inl q) (HD.out.ag.up 3) rfl ?_ ?_ ?_⟩
  · have := HD.out.kn; show A.kn + 3 ≤ 70 * (c + 1); omega
  · have := HD.out.last; omega
  · have := HD.out.made; omega

set_option maxRecDepth 100000 in
set_option maxHeartbeats 2000000 in
theorem turnsStore_any (w : World) (mb rb : Nat) (own : Nat → Prop) (c : Nat) (h : DuoAt w mb rb own c) (on a b cc d : Int) (W : Bool) (S : Value) (hc : c < big) (ha : In64 a) (k : Int) (k9 : k ≠ 9) (k10 : k ≠ 10) (k11 : k ≠ 11) :
    Calls Tryz.prog 13 #[mcV mb rb, opV k on a b cc d W S] w fun e w' => e = .returned (.bool true) ∧ ∃ own', DuoAt w' mb rb own' (c + 1) ∧ Left w w' own own' := by
  obtain ⟨oa, A, R, psi, hD, hown⟩ := h
  have HD := hid hD
  have h0 := hid (hD.only (bx_only w mb rb k on a b cc d W S) (fun _ _ q => q) (fun _ _ q => q))
  have hcell := hid (fun (w1 : World) (oa' : Nat → Prop) (l1 : Left (bx w mb rb k on a b cc d W S) w1 oa oa') => hD.boxes l1)
  clear hD
  unfold mcV opV
  have HC := hid (absStore h0.out.rep a b cc ha (kn_lt3 HD.out.kn hc))
  have HCODE := hid (HD.out.ag.storeAt a b cc)
  have HBD := hid (HD.out.ag.bdd HD.out.rep)
  go_enter Tryz.func13, Tryz.ntmps13
  go_wp2_with fail
  refine HC.out.mono ?_
  rintro e w1 ⟨oa', A', rfl, rep1, l1, hA0, hA1⟩
  have HA0 := hid hA0
  have HA1 := hid hA1
  clear hA0 hA1
  have hB := hcell.out w1 oa' l1
  have hm := hB.m
  have hx := hB.a
  have hx2 := hB.b
  have hx3 := hB.c
  have hs1 : w.heap.size + 2 ≤ w1.heap.size := by
    have q := l1.only.size
    have e : (bx w mb rb k on a b cc d W S).heap.size = w.heap.size + 2 := by simp only [bx, World.size_alloc]
    omega
  have hs2 : w.heap.size < w1.heap.size := by omega
  have hs3 : w.heap.size + 1 < w1.heap.size := by omega
  have hr1 := (h0.out.mid l1).1
  have HR1 := hid (hr1.nob ((Only.refl Nob w1).alloc (.cells #[.int .i64 (A.storeAt a b cc).1, .int .i64 (A.storeAt a b cc).2.1] 53)))
  have HRW := hid (row50 w1 (A.storeAt a b cc).1 (A.storeAt a b cc).2.1)
  have HNO := hid (fun q => (Nat.lt_irrefl _ (hr1.own_lt (b := w1.heap.size) q) : False))
  go_wp2_with fail
  refine (rstore_any _ rb R HR1.out HBD.out HD.out.ag.rts a b cc).mono ?_
  rintro e w2 ⟨rfl, hr2, o2⟩
  rw [HCODE.out.1]
  have r2 := o2.row HRW.out HNO.out
  have d0 : w2.cell? ⟨w1.heap.size, 0, none⟩ = some (.int .i64 (A.storeAt a b cc).1) := r2.cell (i := 0) (by omega)
  have d1 : w2.cell? ⟨w1.heap.size, 1, none⟩ = some (.int .i64 (A.storeAt a b cc).2.1) := r2.cell (i := 1) (by omega)
  have d2 := r2.lt
  have HZ : Hid (Agree A' (R.stored (R.storeTo a b cc) (b.toNat % 8) cc) psi ∧ A'.kn ≤ 70 * (c + 1) ∧ (R.stored (R.storeTo a b cc) (b.toNat % 8) cc).n = R.n ∧ (R.stored (R.storeTo a b cc) (b.toNat % 8) cc).last = R.last ∧ (R.stored (R.storeTo a b cc) (b.toNat % 8) cc).made = R.made ∧ ∀ x, (R.stored (R.storeTo a b cc) (b.toNat % 8) cc).own rb x → R.own rb x) := by
    obtain ⟨_, s1, s2⟩ := HCODE.out
    cases hz : A.stores a b cc with
    | true =>
      obtain ⟨e1, _⟩ := HA0.out hz
      obtain ⟨x, e2, hpb, e3⟩ := s1 hz
      subst e1
      rw [e2, e3]
      exact ⟨HD.out.ag.stored hpb _ _, by have := HD.out.kn; show A.kn + 3 ≤ 70 * (c + 1); omega, rfl, rfl, rfl, fun _ q => q⟩
    | false =>
      have e1 := HA1.out hz
      subst e1
      rw [s2 hz]
      exact ⟨HD.out.ag.up 3, by have := HD.out.kn; show A.kn + 3 ≤ 70 * (c + 1); omega, rfl, rfl, rfl, fun _ q => q⟩
  have HR2 := hid hr2
  clear HA0 HA1 HCODE hr2
  generalize R.stored (R.storeTo a b cc) (b.toNat % 8) cc = R' at *
  generalize (A.storeAt a b cc).1 = x1 at *
  generalize (A.storeAt a b cc).2.1 = x2 at *
  generalize (A.storeAt a b cc).2.2 = x3 at *
  go_wp2
  go_ret
  obtain ⟨z1, z2, z3, z4, z5, z6⟩ := HZ.out
  have o3 : Only (R.own rb) w1 (w2.alloc (.cells #[.int .i64 x1, .int .i64 x2] 53)) := (((Only.refl (R.own rb) w1).alloc _).trans o2).alloc _
  refine ⟨by simp, HD.out.done hown (bx_only w mb rb k on a b cc d W S) l1 rep1 (HR2.out.nob ((Only.refl Nob _).alloc _)) o3 (fun x q => Or.inl (z6 x q)) z1 z3 z2 ?_ ?_⟩
  · have := HD.out.last; omega
  · have := HD.out.made; omega
end
end Go.Proofs.YtfcepnhknmbaaaaGreat
