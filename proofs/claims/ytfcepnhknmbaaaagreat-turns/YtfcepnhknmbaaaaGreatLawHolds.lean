/- The law's steps 'holds' and 'reads': the two machines answer the same, and go on agreeing. -/
import Derived.Test.YtfcepnhknmbaaaaGreatLawBase
namespace Go.Proofs.YtfcepnhknmbaaaaGreat
open Go.RowKit Go.Deep

/-- The world behind the two boxes. -/
def bx (w : World) (mb rb : Nat) (k on a b c d : Int) (W : Bool) (S : Value) : World :=
  (w.alloc (.cells #[pt mb, pt rb] 35)).alloc (.cells #[.int .i64 k, .int .i64 on, .int .i64 a, .int .i64 b, .int .i64 c, .int .i64 d, .bool W, S] 30)

theorem bx_only (w : World) (mb rb : Nat) (k on a b c d : Int) (W : Bool) (S : Value) : Only Nob w (bx w mb rb k on a b c d W S) := ((Only.refl _ _).alloc _).alloc _
theorem bx_m (w : World) (mb rb : Nat) (k on a b c d : Int) (W : Bool) (S : Value) : (bx w mb rb k on a b c d W S).cell? ⟨w.heap.size, 1, none⟩ = some (pt rb) := by
  unfold bx
  exact Only.laid (w := w) (c := #[pt mb, pt rb]) (t := 35) ((Only.refl Nob _).alloc _) (fun q => q) 1
theorem bx_o (w : World) (mb rb : Nat) (k on a b c d : Int) (W : Bool) (S : Value) (i : Nat) : (bx w mb rb k on a b c d W S).cell? ⟨w.heap.size + 1, i, none⟩ = (#[.int .i64 k, .int .i64 on, .int .i64 a, .int .i64 b, .int .i64 c, .int .i64 d, .bool W, S] : Array Value)[i]? := by
  have q := Only.laid (w := w.alloc (.cells #[pt mb, pt rb] 35)) (c := #[.int .i64 k, .int .i64 on, .int .i64 a, .int .i64 b, .int .i64 c, .int .i64 d, .bool W, S]) (t := 30) (Only.refl Nob _) (fun q => q) i
  rw [World.size_alloc] at q
  exact q

structure Boxes (w w1 : World) (rb : Nat) (a b c : Int) (W : Bool) : Prop where
  m : w1.cell? ⟨w.heap.size, 1, none⟩ = some (pt rb)
  a : w1.cell? ⟨w.heap.size + 1, 2, none⟩ = some (.int .i64 a)
  b : w1.cell? ⟨w.heap.size + 1, 3, none⟩ = some (.int .i64 b)
  c : w1.cell? ⟨w.heap.size + 1, 4, none⟩ = some (.int .i64 c)
  W : w1.cell? ⟨w.heap.size + 1, 6, none⟩ = some (.bool W)

theorem Duo.boxes {w w1 : World} {mb rb : Nat} {oa oa' : Nat → Prop} {A : Abs} {R : RS} {psi : Int → Nat} {n : Nat} {k on a b c d : Int} {W : Bool} {S : Value} (h : Duo w mb rb oa A R psi n) (l1 : Left (bx w mb rb k on a b c d W S) w1 oa oa') : Boxes w w1 rb a b c W :=
  ⟨h.box l1 (Nat.le_refl _) (bx_m ..), h.box l1 (Nat.le_succ _) (bx_o _ _ _ _ _ _ _ _ _ _ _ 2), h.box l1 (Nat.le_succ _) (bx_o _ _ _ _ _ _ _ _ _ _ _ 3), h.box l1 (Nat.le_succ _) (bx_o _ _ _ _ _ _ _ _ _ _ _ 4), h.box l1 (Nat.le_succ _) (bx_o _ _ _ _ _ _ _ _ _ _ _ 6)⟩

def big : Nat := 1000000000000000

theorem kn_lt {A : Abs} {c : Nat} (h : A.kn ≤ 70 * c) (hc : c < big) : A.kn < maxLen := by
  have : 70 * big + 70 < maxLen := by decide
  omega
theorem kn_lt3 {A : Abs} {c : Nat} (h : A.kn ≤ 70 * c) (hc : c < big) : A.kn + 3 < maxLen := by
  have : 70 * big + 70 < maxLen := by decide
  omega
theorem lt_num70 {x c : Nat} (h : x ≤ 70 * c) (hc : c < big) : x < 1000000000000000000 := by unfold big at hc; omega
theorem lt_num {x c : Nat} (h : x ≤ c) (hc : c < big) : x < 1000000000000000000 := by unfold big at hc; omega

theorem ticks_kn {A A' : Abs} {c : Nat} (h : A' = A ∨ A' = A.tick) (hk : A.kn ≤ 70 * c) : A'.kn ≤ 70 * (c + 1) := by
  have := kn_tick h
  omega

section
variable (w : World) (mb rb : Nat) (own : Nat → Prop) (c : Nat) (h : DuoAt w mb rb own c) (on a b cc d : Int) (W : Bool) (S : Value)

set_option maxRecDepth 100000 in
set_option maxHeartbeats 2000000 in
theorem holdsFree_any (w : World) (mb rb : Nat) (own : Nat → Prop) (c : Nat) (h : DuoAt w mb rb own c) (on a b cc d : Int) (W : Bool) (S : Value) :
    Calls Tryz.prog 11 #[mcV mb rb, opV 2 on a b cc d W S] w fun e w' => e = .returned (.bool true) ∧ ∃ own', DuoAt w' mb rb own' (c + 1) ∧ Left w w' own own' := by
  obtain ⟨oa, A, R, psi, hD, hown⟩ := h
  have HD := hid hD
  have h0 := hid (hD.only (bx_only w mb rb 2 on a b cc d W S) (fun _ _ q => q) (fun _ _ q => q))
  have HB := hid ((hD.boxes (Left.refl (bx w mb rb 2 on a b cc d W S) oa)))
  have HF : Hid (R.free = A.free) := hD.ag.free hD.rep
  have HN := hid (show A.free ≤ 64 by
    have := R.free_bd hD.n64 hD.ref.many
    have := HF.out
    omega)
  clear hD
  unfold mcV opV
  go_enter Tryz.func11, Tryz.ntmps11
  go_wp2_with fail
  refine (absFree h0.out.rep).mono ?_
  rintro e w1 ⟨rfl, rfl⟩
  have hm := HB.out.m
  go_wp2_with fail
  refine (rfree_any _ rb R h0.out.ref h0.out.n64).mono ?_
  rintro e w2 ⟨rfl, o2⟩
  rw [HF.out]
  go_wp2
  go_ret
  refine ⟨by simp, HD.out.done hown (bx_only w mb rb 2 on a b cc d W S) (Left.refl _ _) h0.out.rep (h0.out.ref.nob o2) o2.of_nob (fun _ q => Or.inl q) HD.out.ag rfl ?_ ?_ ?_⟩
  · have := HD.out.kn; omega
  · have := HD.out.last; omega
  · have := HD.out.made; omega
set_option maxRecDepth 100000 in
set_option maxHeartbeats 2000000 in
theorem holdsCreate_any (w : World) (mb rb : Nat) (own : Nat → Prop) (c : Nat) (h : DuoAt w mb rb own c) (on a b cc d : Int) (W : Bool) (S : Value) (hc : c < big) :
    Calls Tryz.prog 11 #[mcV mb rb, opV 3 on a b cc d W S] w fun e w' => e = .returned (.bool true) ∧ ∃ own', DuoAt w' mb rb own' (c + 1) ∧ Left w w' own own' := by
  obtain ⟨oa, A, R, psi, hD, hown⟩ := h
  have HD := hid hD
  have h0 := hid (hD.only (bx_only w mb rb 3 on a b cc d W S) (fun _ _ q => q) (fun _ _ q => q))
  have hcell := hid (fun (w1 : World) (oa' : Nat → Prop) (l1 : Left (bx w mb rb 3 on a b cc d W S) w1 oa oa') => hD.boxes l1)
  have HF : Hid (R.free = A.free) := hD.ag.free hD.rep
  clear hD
  unfold mcV opV
  have hC := absCreate h0.out.rep (by rw [HD.out.ag.last]; exact lt_num HD.out.last hc)
  have hcode := HD.out.ag.createCode HF.out
  rw [HD.out.ag.last] at hC
  by_cases h4 : 4 ≤ R.L.length
  · have hA : A.createCode = 2 := by rw [← hcode]; simp [RS.createCode, h4]
    rw [hA] at hC
    simp only [show ((2 : Int) = 0) = False by decide, if_false] at hC
    have HC := hid hC
    clear hC hcode hA
    go_enter Tryz.func11, Tryz.ntmps11
    go_wp2_with fail
    refine HC.out.mono ?_
    rintro e w1 ⟨oa', A', rfl, rep1, l1, rfl⟩
    have hm := (hcell.out w1 oa' l1).m
    have hr1 := (h0.out.mid l1).1
    go_wp2_with fail
    refine (rcreateMany_any _ rb R hr1 h4).mono ?_
    rintro e w2 ⟨rfl, rfl⟩
    go_wp2
    go_ret
    refine ⟨by simp, HD.out.done hown (bx_only w mb rb 3 on a b cc d W S) l1 rep1 hr1 (Only.refl _ _) (fun _ q => Or.inl q) HD.out.ag rfl ?_ ?_ ?_⟩
    · have := HD.out.kn; omega
    · have := HD.out.last; omega
    · have := HD.out.made; omega
  · by_cases hf : R.free < 1
    · have hA : A.createCode = 3 := by rw [← hcode]; simp [RS.createCode, h4, hf]
      rw [hA] at hC
      simp only [show ((3 : Int) = 0) = False by decide, if_false] at hC
      have HC := hid hC
      clear hC hcode hA
      go_enter Tryz.func11, Tryz.ntmps11
      go_wp2_with fail
      refine HC.out.mono ?_
      rintro e w1 ⟨oa', A', rfl, rep1, l1, rfl⟩
      have hm := (hcell.out w1 oa' l1).m
      have hr1 := (h0.out.mid l1).1
      go_wp2_with fail
      refine (rcreateFull_any _ rb R hr1 HD.out.n64 (by omega) hf).mono ?_
      rintro e w2 ⟨rfl, o2⟩
      go_wp2
      go_ret
      refine ⟨by simp, HD.out.done hown (bx_only w mb rb 3 on a b cc d W S) l1 rep1 (hr1.nob o2) o2.of_nob (fun _ q => Or.inl q) HD.out.ag rfl ?_ ?_ ?_⟩
      · have := HD.out.kn; omega
      · have := HD.out.last; omega
      · have := HD.out.made; omega
    · have hA : A.createCode = 0 := by rw [← hcode]; simp [RS.createCode, h4, hf]
      rw [hA] at hC
      simp only [if_true] at hC
      have HC := hid hC
      have hlt := lt_num HD.out.last hc
      clear hC hcode hA
      go_enter Tryz.func11, Tryz.ntmps11
      go_wp2_with fail
      refine HC.out.mono ?_
      rintro e w1 ⟨oa', A', rfl, rep1, l1, rfl⟩
      have hm := (hcell.out w1 oa' l1).m
      have hr1 := (h0.out.mid l1).1
      go_wp2_with fail
      refine (rcreateGood_any _ rb R hr1 HD.out.n64 hlt (by omega) (by omega)).mono ?_
      rintro e w2 ⟨v, gb, rfl, hgb, hr2, o2, e2⟩
      go_wp2
      go_ret
      refine ⟨by simp, HD.out.done hown (bx_only w mb rb 3 on a b cc d W S) l1 rep1 hr2 o2 e2 (HD.out.ag.created (fun _ _ q => HD.out.rep.non q) v gb) rfl ?_ ?_ ?_⟩
      · have := HD.out.kn; show A.kn ≤ 70 * (c + 1); omega
      · have := HD.out.last; show R.last + 1 ≤ c + 1; omega
      · have := HD.out.made; show R.made ≤ 70 * (c + 1); omega

set_option maxRecDepth 100000 in
set_option maxHeartbeats 2000000 in
theorem holdsDestroy_any (w : World) (mb rb : Nat) (own : Nat → Prop) (c : Nat) (h : DuoAt w mb rb own c) (on a b cc d : Int) (W : Bool) (S : Value) (ha : In64 a) :
    Calls Tryz.prog 11 #[mcV mb rb, opV 4 on a b cc d W S] w fun e w' => e = .returned (.bool true) ∧ ∃ own', DuoAt w' mb rb own' (c + 1) ∧ Left w w' own own' := by
  obtain ⟨oa, A, R, psi, hD, hown⟩ := h
  have HD := hid hD
  have h0 := hid (hD.only (bx_only w mb rb 4 on a b cc d W S) (fun _ _ q => q) (fun _ _ q => q))
  have hcell := hid (fun (w1 : World) (oa' : Nat → Prop) (l1 : Left (bx w mb rb 4 on a b cc d W S) w1 oa oa') => hD.boxes l1)
  have HF : Hid (R.free = A.free) := hD.ag.free hD.rep
  clear hD
  unfold mcV opV
  have hC := absDestroy h0.out.rep a ha
  cases hf : findFrom R.L a with
  | none =>
    have hh := HD.out.ag.lost hf
    rw [hh] at hC
    simp only [Bool.false_eq_true, if_false, false_implies, true_and, true_implies] at hC
    have HC := hid hC
    clear hC hh
    go_enter Tryz.func11, Tryz.ntmps11
    go_wp2_with fail
    refine HC.out.mono ?_
    rintro e w1 ⟨oa', A', rfl, rep1, l1, rfl⟩
    have hB := hcell.out w1 oa' l1
    have hm := hB.m
    have hx := hB.a
    have hr1 := (h0.out.mid l1).1
    go_wp2_with fail
    refine (rdestroyBad_any _ rb R hr1 a hf).mono ?_
    rintro e w2 ⟨rfl, rfl⟩
    go_wp2
    go_ret
    refine ⟨by simp, HD.out.done hown (bx_only w mb rb 4 on a b cc d W S) l1 rep1 hr1 (Only.refl _ _) (fun _ q => Or.inl q) HD.out.ag rfl ?_ ?_ ?_⟩
    · have := HD.out.kn; omega
    · have := HD.out.last; omega
    · have := HD.out.made; omega
  | some G =>
    have hh := (HD.out.ag.found hf).2.2
    rw [hh] at hC
    simp only [if_true, true_implies] at hC
    have HC := hid hC
    clear hC hh
    go_enter Tryz.func11, Tryz.ntmps11
    go_wp2_with fail
    refine HC.out.mono ?_
    rintro e w1 ⟨oa', A', rfl, rep1, l1, ⟨fr, rfl, _⟩, _⟩
    have hB := hcell.out w1 oa' l1
    have hm := hB.m
    have hx := hB.a
    have hr1 := (h0.out.mid l1).1
    go_wp2_with fail
    refine (rdestroyGood_any _ rb R hr1 a G hf).mono ?_
    rintro e w2 ⟨v, rfl, hr2, o2, e2⟩
    go_wp2
    go_ret
    refine ⟨by simp, HD.out.done hown (bx_only w mb rb 4 on a b cc d W S) l1 rep1 hr2 o2 e2 (HD.out.ag.dropped hf v fr) rfl ?_ ?_ ?_⟩
    · have := HD.out.kn; show A.kn ≤ 70 * (c + 1); omega
    · have := HD.out.last; show R.last ≤ c + 1; omega
    · have := HD.out.made; show R.made ≤ 70 * (c + 1); omega

set_option maxRecDepth 100000 in
set_option maxHeartbeats 2000000 in
theorem holdsMap_any (w : World) (mb rb : Nat) (own : Nat → Prop) (c : Nat) (h : DuoAt w mb rb own c) (on a b cc d : Int) (W : Bool) (S : Value) (hc : c < big) (ha : In64 a) :
    Calls Tryz.prog 11 #[mcV mb rb, opV 5 on a b cc d W S] w fun e w' => e = .returned (.bool true) ∧ ∃ own', DuoAt w' mb rb own' (c + 1) ∧ Left w w' own own' := by
  obtain ⟨oa, A, R, psi, hD, hown⟩ := h
  have HD := hid hD
  have h0 := hid (hD.only (bx_only w mb rb 5 on a b cc d W S) (fun _ _ q => q) (fun _ _ q => q))
  have hcell := hid (fun (w1 : World) (oa' : Nat → Prop) (l1 : Left (bx w mb rb 5 on a b cc d W S) w1 oa oa') => hD.boxes l1)
  have HF : Hid (R.free = A.free) := hD.ag.free hD.rep
  clear hD
  unfold mcV opV
  have hC := absMap h0.out.rep a b W ha (kn_lt HD.out.kn hc)
  have hcode := HD.out.ag.mapCode HF.out a b
  by_cases hz : A.mapCode a b = 0
  · rw [hz] at hC
    simp only [true_implies, ne_eq, not_true_eq_false, false_implies, and_true] at hC
    rw [hz] at hcode
    obtain ⟨G, hf, h00, h01, hx0, hfr⟩ : ∃ G, findFrom R.L a = some G ∧ 0 ≤ b ∧ b < 64 ∧ G.P b.toNat = none ∧ ¬ R.free < 1 + G.takes (b.toNat / 8) := by
      simp only [RS.mapCode] at hcode
      cases hf : findFrom R.L a with
      | none => rw [hf] at hcode; simp at hcode
      | some G =>
        rw [hf] at hcode
        by_cases q : b < 0 ∨ 64 ≤ b
        · simp [q] at hcode
        · simp only [q, if_false] at hcode
          cases hx : G.P b.toNat with
          | some x => rw [hx] at hcode; simp at hcode
          | none =>
            rw [hx] at hcode
            by_cases q2 : R.free < 1 + G.takes (b.toNat / 8)
            · simp [q2] at hcode
            · exact ⟨G, rfl, by omega, by omega, hx, q2⟩
    have HC := hid hC
    have hlt := lt_num70 HD.out.made hc
    have hfnd := HD.out.ag.found hf
    clear hC hcode hz
    go_enter Tryz.func11, Tryz.ntmps11
    go_wp2_with fail
    refine HC.out.mono ?_
    rintro e w1 ⟨oa', A', rfl, rep1, l1, f, hnew, rfl⟩
    have hB := hcell.out w1 oa' l1
    have hm := hB.m
    have hx := hB.a
    have hx2 := hB.b
    have hx3 := hB.W
    have hr1 := (h0.out.mid l1).1
    go_wp2_with fail
    refine (rmapGood_any _ rb R hr1 HD.out.n64 hlt a b W G hf h00 h01 hx0 (by omega)).mono ?_
    rintro e w2 ⟨pb, rfl, hpb, hr2, o2⟩
    go_wp2
    go_ret
    have hag := HD.out.ag.mapped hr1 hfnd.1 (p := b.toNat) (f := f) (pb := pb) (b := W) hnew hpb
    rw [hfnd.2.1] at hag
    refine ⟨by simp, HD.out.done hown (bx_only w mb rb 5 on a b cc d W S) l1 rep1 hr2 o2 (fun x q => ?_) hag rfl ?_ ?_ ?_⟩
    · rcases set_own q with q | q
      · exact Or.inl q
      · injection q with q; subst q; exact Or.inr hpb
    · have := HD.out.kn; show A.kn + 1 ≤ 70 * (c + 1); omega
    · have := HD.out.last; show R.last ≤ c + 1; omega
    · have := HD.out.made; show R.made + 1 ≤ 70 * (c + 1); omega
  · have hz2 : R.mapCode a b ≠ 0 := by rw [hcode]; exact hz
    have HC := hid hC
    have HZ := hid hz
    have HCODE := hid hcode
    clear hC hcode hz
    go_enter Tryz.func11, Tryz.ntmps11
    go_wp2_with fail
    refine HC.out.mono ?_
    rintro e w1 ⟨oa', A', rfl, rep1, l1, _, hA⟩
    have HA := hid (hA HZ.out)
    clear hA
    have hB := hcell.out w1 oa' l1
    have hm := hB.m
    have hx := hB.a
    have hx2 := hB.b
    have hx3 := hB.W
    have hr1 := (h0.out.mid l1).1
    go_wp2_with fail
    refine (rmapBad_any _ rb R hr1 HD.out.n64 a b W hz2).mono ?_
    rintro e w2 ⟨rfl, o2⟩
    rw [HCODE.out]
    generalize A.mapCode a b = code at *
    go_wp2
    go_ret
    refine ⟨by simp, HD.out.done hown (bx_only w mb rb 5 on a b cc d W S) l1 rep1 (hr1.nob o2) o2.of_nob (fun _ q => Or.inl q) (HD.out.ag.ticks HA.out) rfl (ticks_kn HA.out HD.out.kn) ?_ ?_⟩
    · have := HD.out.last; omega
    · have := HD.out.made; omega

set_option maxRecDepth 100000 in
set_option maxHeartbeats 2000000 in
theorem holdsUnmap_any (w : World) (mb rb : Nat) (own : Nat → Prop) (c : Nat) (h : DuoAt w mb rb own c) (on a b cc d : Int) (W : Bool) (S : Value) (hc : c < big) (ha : In64 a) (k : Int) (k2 : k ≠ 2) (k3 : k ≠ 3) (k4 : k ≠ 4) (k5 : k ≠ 5) :
    Calls Tryz.prog 11 #[mcV mb rb, opV k on a b cc d W S] w fun e w' => e = .returned (.bool true) ∧ ∃ own', DuoAt w' mb rb own' (c + 1) ∧ Left w w' own own' := by
  obtain ⟨oa, A, R, psi, hD, hown⟩ := h
  have HD := hid hD
  have h0 := hid (hD.only (bx_only w mb rb k on a b cc d W S) (fun _ _ q => q) (fun _ _ q => q))
  have hcell := hid (fun (w1 : World) (oa' : Nat → Prop) (l1 : Left (bx w mb rb k on a b cc d W S) w1 oa oa') => hD.boxes l1)
  clear hD
  unfold mcV opV
  have hC := absUnmap h0.out.rep a b ha (kn_lt HD.out.kn hc)
  have HCODE := hid (HD.out.ag.unmapCode a b)
  have HC := hid hC
  clear hC
  go_enter Tryz.func11, Tryz.ntmps11
  go_wp2_with fail
  refine HC.out.mono ?_
  rintro e w1 ⟨oa', A', rfl, rep1, l1, hA0, hA1⟩
  have HA0 := hid hA0
  have HA1 := hid hA1
  clear hA0 hA1
  have hB := hcell.out w1 oa' l1
  have hm := hB.m
  have hx := hB.a
  have hx2 := hB.b
  have hr1 := (h0.out.mid l1).1
  go_wp2_with fail
  refine (runmap_any _ rb R hr1 a b).mono ?_
  rintro e w2 ⟨R', rfl, hr2, o2, hR0, hR1⟩
  have HR0 := hid hR0
  have HR1 := hid hR1
  clear hR0 hR1
  rw [HCODE.out]
  have hcc := HCODE.out
  have HZ : Hid (∃ psi', Agree A' R' psi' ∧ A'.kn ≤ 70 * (c + 1) ∧ R'.n = R.n ∧ R'.last = R.last ∧ R'.made = R.made ∧ ∀ x, R'.own rb x → R.own rb x) := by
    by_cases hz : A.unmapCode a b = 0
    · obtain ⟨fr, rfl, _⟩ := HA0.out hz
      obtain ⟨G, hf, rfl⟩ := HR0.out (by rw [hcc]; exact hz)
      obtain ⟨q1, q2, _⟩ := HD.out.ag.found hf
      have hag := HD.out.ag.unmapped hr1 q1 b.toNat fr
      rw [q2] at hag
      refine ⟨psi, hag, ?_, rfl, rfl, rfl, fun x q => ?_⟩
      · have := HD.out.kn; show A.kn + 1 ≤ 70 * (c + 1); omega
      · rcases set_own q with q | q
        · exact q
        · cases q
    · have e2 := HR1.out (by rw [hcc]; exact hz)
      subst e2
      exact ⟨psi, HD.out.ag.ticks (HA1.out hz), ticks_kn (HA1.out hz) HD.out.kn, rfl, rfl, rfl, fun _ q => q⟩
  clear hcc HA0 HA1 HR0 HR1
  generalize A.unmapCode a b = code at *
  go_wp2
  go_ret
  obtain ⟨psi', z1, z2, z3, z4, z5, z6⟩ := HZ.out
  refine ⟨by simp, HD.out.done hown (bx_only w mb rb k on a b cc d W S) l1 rep1 hr2 o2 (fun x q => Or.inl (z6 x q)) z1 z3 z2 ?_ ?_⟩
  · have := HD.out.last; omega
  · have := HD.out.made; omega

/-! reads. -/
set_option maxRecDepth 100000 in
set_option maxHeartbeats 2000000 in
theorem readsRead_any (w : World) (mb rb : Nat) (own : Nat → Prop) (c : Nat) (h : DuoAt w mb rb own c) (on a b cc d : Int) (W : Bool) (S : Value) (hc : c < big) (ha : In64 a) :
    Calls Tryz.prog 12 #[mcV mb rb, opV 7 on a b cc d W S] w fun e w' => e = .returned (.bool true) ∧ ∃ own', DuoAt w' mb rb own' (c + 1) ∧ Left w w' own own' := by
  obtain ⟨oa, A, R, psi, hD, hown⟩ := h
  have HD := hid hD
  have h0 := hid (hD.only (bx_only w mb rb 7 on a b cc d W S) (fun _ _ q => q) (fun _ _ q => q))
  have hcell := hid (fun (w1 : World) (oa' : Nat → Prop) (l1 : Left (bx w mb rb 7 on a b cc d W S) w1 oa oa') => hD.boxes l1)
  clear hD
  unfold mcV opV
  have HC := hid (absRead h0.out.rep a b ha (kn_lt HD.out.kn hc))
  have HCODE := hid (HD.out.ag.readAt a b)
  go_enter Tryz.func12, Tryz.ntmps12
  go_wp2_with fail
  refine HC.out.mono ?_
  rintro e w1 ⟨oa', A', rfl, rep1, l1, hA⟩
  have HA := hid hA
  clear hA
  have hB := hcell.out w1 oa' l1
  have hm := hB.m
  have hx := hB.a
  have hx2 := hB.b
  have hr1 := (h0.out.mid l1).1
  go_wp2_with fail
  refine (rread_any _ rb R hr1 a b).mono ?_
  rintro e w2 ⟨rfl, rfl⟩
  rw [HCODE.out]
  generalize (A.readAt a b).1 = x1 at *
  generalize (A.readAt a b).2 = x2 at *
  go_wp2
  go_ret
  refine ⟨by simp, HD.out.done hown (bx_only w mb rb 7 on a b cc d W S) l1 rep1 hr1 (Only.refl _ _) (fun _ q => Or.inl q) (HD.out.ag.ticks HA.out) rfl (ticks_kn HA.out HD.out.kn) ?_ ?_⟩
  · have := HD.out.last; omega
  · have := HD.out.made; omega

set_option maxRecDepth 100000 in
set_option maxHeartbeats 2000000 in
theorem readsWrite_any (w : World) (mb rb : Nat) (own : Nat → Prop) (c : Nat) (h : DuoAt w mb rb own c) (on a b cc d : Int) (W : Bool) (S : Value) (hc : c < big) (ha : In64 a) (k : Int) (k7 : k ≠ 7) :
    Calls Tryz.prog 12 #[mcV mb rb, opV k on a b cc d W S] w fun e w' => e = .returned (.bool true) ∧ ∃ own', DuoAt w' mb rb own' (c + 1) ∧ Left w w' own own' := by
  obtain ⟨oa, A, R, psi, hD, hown⟩ := h
  have HD := hid hD
  have h0 := hid (hD.only (bx_only w mb rb k on a b cc d W S) (fun _ _ q => q) (fun _ _ q => q))
  have hcell := hid (fun (w1 : World) (oa' : Nat → Prop) (l1 : Left (bx w mb rb k on a b cc d W S) w1 oa oa') => hD.boxes l1)
  clear hD
  unfold mcV opV
  have HC := hid (absWrite h0.out.rep a b cc ha (kn_lt HD.out.kn hc))
  have HCODE := hid (HD.out.ag.writeCode a b cc)
  go_enter Tryz.func12, Tryz.ntmps12
  go_wp2_with fail
  refine HC.out.mono ?_
  rintro e w1 ⟨oa', A', rfl, rep1, l1, hA0, hA1⟩
  have HA0 := hid hA0
  have HA1 := hid hA1
  clear hA0 hA1
  have hB := hcell.out w1 oa' l1
  have hm := hB.m
  have hx := hB.a
  have hx2 := hB.b
  have hx3 := hB.c
  have hr1 := (h0.out.mid l1).1
  go_wp2_with fail
  refine (rwrite_any _ rb R hr1 a b cc).mono ?_
  rintro e w2 ⟨R', rfl, hr2, o2, hR0, hR1⟩
  have HR0 := hid hR0
  have HR1 := hid hR1
  clear hR0 hR1
  rw [HCODE.out]
  have hcc := HCODE.out
  have HZ : Hid (∃ psi', Agree A' R' psi' ∧ A'.kn ≤ 70 * (c + 1) ∧ R'.n = R.n ∧ R'.last = R.last ∧ R'.made = R.made ∧ ∀ x, R'.own rb x → R.own rb x) := by
    by_cases hz : A.writeCode a b cc = 0
    · obtain ⟨f, b0, hpg, rfl⟩ := HA0.out hz
      obtain ⟨G, b1, hf, hP, rfl⟩ := HR0.out (by rw [hcc]; exact hz)
      obtain ⟨q1, q2, _⟩ := HD.out.ag.found hf
      have hb64 : b.toNat / 8 < 64 := by
        rcases Nat.lt_or_ge (b.toNat / 8) 64 with q | q
        · exact q
        · have hbad : b < 0 ∨ 512 ≤ b := by omega
          rw [← hcc, RS.writeCode, hf] at hz
          simp [hbad] at hz
      have hpg2 := HD.out.ag.pg G q1 _ hb64
      rw [q2, hpg, hP] at hpg2
      injection hpg2 with hpg2
      injection hpg2 with e1 e2
      subst e1
      refine ⟨psi, HD.out.ag.wrote ⟨G, q1, _, hb64, hP⟩ _ _, ?_, rfl, rfl, rfl, fun x q => q⟩
      have := HD.out.kn; show A.kn + 1 ≤ 70 * (c + 1); omega
    · have e2 := HR1.out (by rw [hcc]; exact hz)
      subst e2
      exact ⟨psi, HD.out.ag.ticks (HA1.out hz), ticks_kn (HA1.out hz) HD.out.kn, rfl, rfl, rfl, fun _ q => q⟩
  clear hcc HA0 HA1 HR0 HR1
  generalize A.writeCode a b cc = code at *
  go_wp2
  go_ret
  obtain ⟨psi', z1, z2, z3, z4, z5, z6⟩ := HZ.out
  refine ⟨by simp, HD.out.done hown (bx_only w mb rb k on a b cc d W S) l1 rep1 hr2 o2 (fun x q => Or.inl (z6 x q)) z1 z3 z2 ?_ ?_⟩
  · have := HD.out.last; omega
  · have := HD.out.made; omega
end
end Go.Proofs.YtfcepnhknmbaaaaGreat
