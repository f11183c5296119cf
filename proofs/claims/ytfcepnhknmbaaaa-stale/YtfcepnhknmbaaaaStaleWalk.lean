/- The law Stale, walked. -/
import Derived.Test.YtfcepnhknmbaaaaKeepD
namespace Go.Proofs.Ytfcepnhknmbaaaa
open Go.RowKit Go.Deep

theorem mapped_none {A : Abs} {p p' f : Nat} {b : Bool} (h : A.pg 1 p' = none) (hne : p' ≠ p) : (A.mapped 1 p f b).pg 1 p' = none := by
  show (if (1 : Int) = 1 ∧ p' = p then some (f, b) else A.pg 1 p') = none
  rw [if_neg (fun e => hne e.2)]
  exact h
theorem mapped_keep {A : Abs} {p p' f : Nat} {b : Bool} {x : Nat × Bool} (h : A.pg 1 p' = some x) (hne : p' ≠ p) : (A.mapped 1 p f b).pg 1 p' = some x := by
  show (if (1 : Int) = 1 ∧ p' = p then some (f, b) else A.pg 1 p') = some x
  rw [if_neg (fun e => hne e.2)]
  exact h
theorem mapped_some {A : Abs} {p f : Nat} {b : Bool} : (A.mapped 1 p f b).pg 1 p = some (f, b) := by
  show (if (1 : Int) = 1 ∧ p = p then some (f, b) else A.pg 1 p) = some (f, b)
  rw [if_pos ⟨rfl, rfl⟩]

/-- A root page, a table, two pages; F is meant. -/
structure Sta (A : Abs) (F D : Nat) (f0 f1 f2 f3 : Nat) (v : Int) : Prop where
  p0 : A.pg 1 0 = some (f0, true)
  p1 : A.pg 1 1 = some (f1, true)
  p2 : A.pg 1 F = some (f2, true)
  p3 : A.pg 1 D = some (f3, true)
  oth : ∀ p, p ≠ 0 → p ≠ 1 → p ≠ F → p ≠ D → A.pg 1 p = none
  d01 : f0 ≠ f1
  d02 : f0 ≠ f2
  d03 : f0 ≠ f3
  d12 : f1 ≠ f2
  d13 : f1 ≠ f3
  d23 : f2 ≠ f3
  w0 : A.wd f0 0 = 7
  w1 : A.wd f1 0 = 4 * F + 3
  w2 : A.wd f2 0 = v
  w3 : A.wd f3 0 = 0

theorem idx0 (l : Int) : idx l 0 = 0 := by simp [idx]
theorem ent_ok (F : Nat) (h : F < 64) : pres (4 * (F : Int) + 3) = true ∧ wrib (4 * (F : Int) + 3) = true ∧ numb (4 * (F : Int) + 3) = F := by
  refine ⟨?_, ?_, ?_⟩
  · simp only [pres, beq_iff_eq]; omega
  · simp only [wrib, beq_iff_eq]; omega
  · simp only [numb]; omega

theorem lev7 {A : Abs} {f0 : Nat} {b : Bool} (h : A.pg 1 0 = some (f0, b)) (hw : A.wd f0 0 = 7) : A.lev 1 0 false 2 0 = A.lev 1 0 false 1 1 :=
  lev_go (x := 7) h (by rw [idx0]; exact hw) rfl (fun e => by cases e)

theorem lev4 {A : Abs} {f1 F : Nat} {b : Bool} (hF : F < 64) (h : A.pg 1 1 = some (f1, b)) (hw : A.wd f1 0 = 4 * F + 3) : A.lev 1 0 false 1 1 = A.lev 1 0 false 0 F := by
  obtain ⟨e1, _, e3⟩ := ent_ok F hF
  have := lev_go (A := A) (g := 1) (p := 0) (q := 1) (n := 0) (st := false) (x := 4 * F + 3) h (by rw [idx0]; exact hw) e1 (fun e => by cases e)
  rw [e3] at this
  exact this

theorem Sta.load {A : Abs} {F D f0 f1 f2 f3 : Nat} {v : Int} (h : Sta A F D f0 f1 f2 f3 v) (hF : F < 64) (hr : A.rt 1 = 0) : A.turned 1 0 false = (f2, 0, 0) := by
  rw [turned_by hr (by omega)]
  show A.lev 1 0 false 2 0 = _
  rw [lev7 h.p0 h.w0, lev4 hF h.p1 h.w1, lev0_go h.p2 (fun e => by cases e)]

/-- The prefix' state. -/
theorem Sta.of {A : Abs} {F D f0 f1 f2 f3 : Nat} {v : Int} (h : ∀ p, A.pg 1 p = none) (hF : 10 ≤ F ∧ F ≤ 17) (hD : 30 ≤ D ∧ D ≤ 37)
    (n1 : f1 ≠ f0) (n2 : f2 ≠ f0 ∧ f2 ≠ f1) (n3 : f3 ≠ f0 ∧ f3 ≠ f1 ∧ f3 ≠ f2) :
    Sta ((((((((A.mapped 1 0 f0 true).mapped 1 1 f1 true).mapped 1 F f2 true).mapped 1 D f3 true).wrote f0 0 7).wrote f1 0 (4 * F + 3)).wrote f2 0 v).rooted 1 0) F D f0 f1 f2 f3 v := by
  have hpg : ∀ p, ((((((((A.mapped 1 0 f0 true).mapped 1 1 f1 true).mapped 1 F f2 true).mapped 1 D f3 true).wrote f0 0 7).wrote f1 0 (4 * F + 3)).wrote f2 0 v).rooted 1 0).pg 1 p = if p = D then some (f3, true) else if p = F then some (f2, true) else if p = 1 then some (f1, true) else if p = 0 then some (f0, true) else none := fun p => by
    show (if (1 : Int) = 1 ∧ p = D then some (f3, true) else if (1 : Int) = 1 ∧ p = F then some (f2, true) else if (1 : Int) = 1 ∧ p = 1 then some (f1, true) else if (1 : Int) = 1 ∧ p = 0 then some (f0, true) else A.pg 1 p) = _
    simp only [true_and, h]
  have hwd : ∀ f, ((((((((A.mapped 1 0 f0 true).mapped 1 1 f1 true).mapped 1 F f2 true).mapped 1 D f3 true).wrote f0 0 7).wrote f1 0 (4 * F + 3)).wrote f2 0 v).rooted 1 0).wd f 0 = if f = f2 then v else if f = f1 then 4 * (F : Int) + 3 else if f = f0 then 7 else if f = f3 then 0 else if f = f2 then 0 else if f = f1 then 0 else if f = f0 then 0 else A.wd f 0 := fun f => by
    show (if f = f2 ∧ 0 = 0 then v else if f = f1 ∧ 0 = 0 then 4 * (F : Int) + 3 else if f = f0 ∧ 0 = 0 then 7 else if f = f3 then 0 else if f = f2 then 0 else if f = f1 then 0 else if f = f0 then 0 else A.wd f 0) = _
    simp only [and_true]
  refine ⟨?_, ?_, ?_, ?_, ?_, fun e => n1 e.symm, fun e => n2.1 e.symm, fun e => n3.1 e.symm, fun e => n2.2 e.symm, fun e => n3.2.1 e.symm, fun e => n3.2.2 e.symm, ?_, ?_, ?_, ?_⟩
  · rw [hpg, if_neg (by omega), if_neg (by omega), if_neg (by omega), if_pos rfl]
  · rw [hpg, if_neg (by omega), if_neg (by omega), if_pos rfl]
  · rw [hpg, if_neg (by omega), if_pos rfl]
  · rw [hpg, if_pos rfl]
  · intro p h0 h1 h2 h3
    rw [hpg, if_neg h3, if_neg h2, if_neg h1, if_neg h0]
  · rw [hwd, if_neg (fun e => n2.1 e.symm), if_neg (fun e => n1 e.symm), if_pos rfl]
  · rw [hwd, if_neg (fun e => n2.2 e.symm), if_pos rfl]
  · rw [hwd, if_pos rfl]
  · rw [hwd, if_neg n3.2.2, if_neg n3.2.1, if_neg n3.1, if_pos rfl]

/-- By the root page and the table to the page that is meant. -/
theorem via {C : Abs} {G f0 f1 : Nat} {b0 b1 : Bool} (hr : C.rt 1 = 0) (h0 : C.pg 1 0 = some (f0, b0)) (w0 : C.wd f0 0 = 7) (h1 : C.pg 1 1 = some (f1, b1)) (w1 : C.wd f1 0 = 4 * G + 3) (hG : G < 64) : C.turned 1 0 false = C.lev 1 0 false 0 G := by
  rw [turned_by hr (by omega)]
  show C.lev 1 0 false 2 0 = _
  rw [lev7 h0 w0, lev4 hG h1 w1]

theorem Sta.other {A : Abs} {F D f0 f1 f2 f3 : Nat} {v : Int} (h : Sta A F D f0 f1 f2 f3 v) (hD : D < 64) (hr : A.rt 1 = 0) : (((A.up 3).wrote f1 0 (4 * D + 3)).turned 1 0 false = (f3, 0, 0)) ∧ ((A.up 3).wrote f1 0 (4 * D + 3)).wd f3 0 = 0 := by
  have hw : ∀ f, ((A.up 3).wrote f1 0 (4 * D + 3)).wd f 0 = if f = f1 then 4 * (D : Int) + 3 else A.wd f 0 := fun f => by
    show (if f = f1 ∧ 0 = 0 then 4 * (D : Int) + 3 else A.wd f 0) = _
    simp only [and_true]
  constructor
  · exact (via (C := (A.up 3).wrote f1 0 (4 * D + 3)) (f0 := f0) (f1 := f1) hr h.p0 (by rw [hw, if_neg h.d01]; exact h.w0) h.p1 (by rw [hw, if_pos rfl]) hD).trans (lev0_go (A := (A.up 3).wrote f1 0 (4 * D + 3)) (b := true) (f := f3) h.p3 (fun e => by cases e))
  · rw [hw, if_neg (fun e => h.d13 e.symm)]
    exact h.w3

theorem Sta.gone {A : Abs} {F D f0 f1 f2 f3 n : Nat} {v : Int} (h : Sta A F D f0 f1 f2 f3 v) (hF : F < 64) (hF1 : 10 ≤ F) (hr : A.rt 1 = 0) : ((A.up 3).unmapped 1 F n).turned 1 0 false = (0, 3, 3) := by
  have hpg : ∀ p, ((A.up 3).unmapped 1 F n).pg 1 p = if p = F then none else A.pg 1 p := fun p => by
    show (if (1 : Int) = 1 ∧ p = F then none else A.pg 1 p) = _
    simp only [true_and]
  exact (via (C := (A.up 3).unmapped 1 F n) (f0 := f0) (f1 := f1) hr (by rw [hpg, if_neg (by omega)]; exact h.p0) h.w0 (by rw [hpg, if_neg (by omega)]; exact h.p1) h.w1 hF).trans (lev0_none (by rw [hpg, if_pos rfl]))

theorem Sta.again {A : Abs} {F D f0 f1 f2 f3 n f : Nat} {v : Int} (h : Sta A F D f0 f1 f2 f3 v) (hF : F < 64) (hF1 : 10 ≤ F) (hr : A.rt 1 = 0) (hn : ∀ p' b', p' < 64 → ((A.up 3).unmapped 1 F n).pg 1 p' ≠ some (f, b')) :
    (((A.up 3).unmapped 1 F n).mapped 1 F f true).turned 1 0 false = (f, 0, 0) ∧ (((A.up 3).unmapped 1 F n).mapped 1 F f true).wd f 0 = 0 := by
  have hpg0 : ∀ p, ((A.up 3).unmapped 1 F n).pg 1 p = if p = F then none else A.pg 1 p := fun p => by
    show (if (1 : Int) = 1 ∧ p = F then none else A.pg 1 p) = _
    simp only [true_and]
  have hpg : ∀ p, (((A.up 3).unmapped 1 F n).mapped 1 F f true).pg 1 p = if p = F then some (f, true) else A.pg 1 p := fun p => by
    show (if (1 : Int) = 1 ∧ p = F then some (f, true) else ((A.up 3).unmapped 1 F n).pg 1 p) = _
    simp only [true_and]
    by_cases e : p = F
    · rw [if_pos e, if_pos e]
    · rw [if_neg e, if_neg e, hpg0, if_neg e]
  have hw : ∀ f', (((A.up 3).unmapped 1 F n).mapped 1 F f true).wd f' 0 = if f' = f then 0 else A.wd f' 0 := fun _ => rfl
  have e0 : f0 ≠ f := fun e => hn 0 true (by omega) (by rw [hpg0, if_neg (by omega), h.p0, e])
  have e1 : f1 ≠ f := fun e => hn 1 true (by omega) (by rw [hpg0, if_neg (by omega), h.p1, e])
  constructor
  · exact (via (C := ((A.up 3).unmapped 1 F n).mapped 1 F f true) (f0 := f0) (f1 := f1) hr (by rw [hpg, if_neg (by omega)]; exact h.p0) (by rw [hw, if_neg e0]; exact h.w0) (by rw [hpg, if_neg (by omega)]; exact h.p1) (by rw [hw, if_neg e1]; exact h.w1) hF).trans (lev0_go (f := f) (b := true) (by rw [hpg, if_pos rfl]) (fun e => by cases e))
  · rw [hw, if_pos rfl]

theorem Sta.table {A : Abs} {F D f0 f1 f2 f3 n : Nat} {v : Int} (h : Sta A F D f0 f1 f2 f3 v) (hr : A.rt 1 = 0) : ((A.up 3).unmapped 1 1 n).turned 1 0 false = (0, 3, 2) := by
  have hpg : ∀ p, ((A.up 3).unmapped 1 1 n).pg 1 p = if p = 1 then none else A.pg 1 p := fun p => by
    show (if (1 : Int) = 1 ∧ p = 1 then none else A.pg 1 p) = _
    simp only [true_and]
  have e1 : ((A.up 3).unmapped 1 1 n).turned 1 0 false = ((A.up 3).unmapped 1 1 n).lev 1 0 false 2 0 := turned_by (A := (A.up 3).unmapped 1 1 n) (R := 0) hr (by omega)
  have e2 : ((A.up 3).unmapped 1 1 n).lev 1 0 false 2 0 = ((A.up 3).unmapped 1 1 n).lev 1 0 false 1 1 := lev7 (f0 := f0) (b := true) (by rw [hpg, if_neg (by omega)]; exact h.p0) h.w0
  rw [e1, e2, lev_none (n := 0) (by rw [hpg, if_pos rfl])]
  rfl

theorem Sta.lone {A : Abs} {F D f0 f1 f2 f3 : Nat} {v : Int} (h : Sta A F D f0 f1 f2 f3 v) (p : Nat) (b : Bool) : (A.pg 1 p = some (f2, b) → p = F) ∧ (A.pg 1 p = some (f1, b) → p = 1) := by
  have key : ∀ x, A.pg 1 p = some (x, b) → (p = 0 ∧ x = f0) ∨ (p = 1 ∧ x = f1) ∨ (p = F ∧ x = f2) ∨ (p = D ∧ x = f3) := fun x e => by
    by_cases q0 : p = 0
    · rw [q0, h.p0] at e; injection e with e; injection e with e _; exact Or.inl ⟨q0, e.symm⟩
    · by_cases q1 : p = 1
      · rw [q1, h.p1] at e; injection e with e; injection e with e _; exact Or.inr (Or.inl ⟨q1, e.symm⟩)
      · by_cases q2 : p = F
        · rw [q2, h.p2] at e; injection e with e; injection e with e _; exact Or.inr (Or.inr (Or.inl ⟨q2, e.symm⟩))
        · by_cases q3 : p = D
          · rw [q3, h.p3] at e; injection e with e; injection e with e _; exact Or.inr (Or.inr (Or.inr ⟨q3, e.symm⟩))
          · rw [h.oth p q0 q1 q2 q3] at e; cases e
  constructor
  · intro e
    rcases key f2 e with ⟨_, q⟩ | ⟨_, q⟩ | ⟨q, _⟩ | ⟨_, q⟩
    · exact absurd q.symm h.d02
    · exact absurd q.symm h.d12
    · exact q
    · exact absurd q h.d23
  · intro e
    rcases key f1 e with ⟨_, q⟩ | ⟨q, _⟩ | ⟨_, q⟩ | ⟨_, q⟩
    · exact absurd q.symm h.d01
    · exact q
    · exact absurd q h.d12
    · exact absurd q h.d13

set_option maxRecDepth 100000 in
set_option maxHeartbeats 4000000 in
theorem stale_walk (a0 a1 a2 a3 : Int) (w : World) (h0 : In64 a0) (h1 : In64 a1) (h2 : In64 a2) (h3 : In64 a3) :
    Calls Try.prog 8 #[.int .i64 a0, .int .i64 a1, .int .i64 a2, .int .i64 a3] w fun e w' => e = .returned (.bool true) ∧ Below w.heap.size w w' := by
  have hp := pickI_bd a0 8 (by omega)
  have hq := pickI_bd a1 8 (by omega)
  have hv := pickI_bd a2 65535 (by omega)
  have hh := pickI_bd a3 5 (by omega)
  go_enter Try.func8, Try.ntmps8
  go_wp2_with fail
  refine (machine_any _ 20 1 (by omega) (by omega) (by omega) (by omega) (by omega)).mono ?_
  rintro e w1 ⟨mb, A0, rfl, hR0, hI0⟩
  have hI0 : Init A0 20 1 := hI0
  have hO0 := One1.init hR0 hI0
  have HI0 := hid hI0
  have HO0 := hid hO0
  clear hR0 hI0 hO0
  go_wp2_with fail
  refine (pick_any _ a0 8 h0.1 h0.2 (by omega) (by omega)).mono ?_
  rintro e w2 ⟨rfl, rfl⟩
  clear h0
  go_wp2_with fail
  refine (pick_any _ a1 8 h1.1 h1.2 (by omega) (by omega)).mono ?_
  rintro e w2 ⟨rfl, rfl⟩
  clear h1
  go_wp2_with fail
  refine (pick_any _ a2 65535 h2.1 h2.2 (by omega) (by omega)).mono ?_
  rintro e w2 ⟨rfl, rfl⟩
  clear h2
  generalize pickI a0 8 = p0 at *
  generalize pickI a1 8 = q0 at *
  generalize pickI a2 65535 = v0 at *
  go_wp2_with fail
  generalize hF : 10 + p0 = F
  generalize hD : 30 + q0 = D
  generalize hV : 1 + v0 = v
  have hF1 : 10 ≤ F ∧ F ≤ 17 := by omega
  have hD1 : 30 ≤ D ∧ D ≤ 37 := by omega
  have hV1 : 1 ≤ v ∧ v ≤ 65535 := by omega
  clear hF hD hV hp hq hv
  refine (HO0.out.map true (p := 0) (by omega) (by omega) (HI0.out.pg 1 _) (by omega) (by omega)).mono ?_
  rintro e w2 ⟨f0, rfl, hO1, _⟩
  have HO1 := hid hO1
  clear hO1
  go_wp2_with fail
  refine (HO1.out.map true (p := 1) (by omega) (by omega) (mapped_none (HI0.out.pg 1 _) (by omega)) (by omega) (by omega)).mono ?_
  rintro e w3 ⟨f1, rfl, hO2, hn1⟩
  have HO2 := hid hO2
  have HN1 := hid (show f1 ≠ f0 from fun e => hn1 0 true (by omega) (by rw [e]; exact mapped_some))
  clear hO2 hn1
  go_wp2_with fail
  refine (HO2.out.map true (p := F) (by omega) (by omega) (mapped_none (mapped_none (HI0.out.pg 1 _) (by omega)) (by omega)) (by omega) (by omega)).mono ?_
  rintro e w4 ⟨f2, rfl, hO3, hn2⟩
  have HO3 := hid hO3
  have HN2 := hid (show f2 ≠ f0 ∧ f2 ≠ f1 from ⟨fun e => hn2 0 true (by omega) (by rw [e]; exact mapped_keep mapped_some (by decide)), fun e => hn2 1 true (by omega) (by rw [e]; exact mapped_some)⟩)
  clear hO3 hn2
  go_wp2_with fail
  refine (HO3.out.map true (p := D) (by omega) (by omega) (mapped_none (mapped_none (mapped_none (HI0.out.pg 1 _) (by omega)) (by omega)) (by omega)) (by omega) (by omega)).mono ?_
  rintro e w5 ⟨f3, rfl, hO4, hn3⟩
  have HO4 := hid hO4
  have HN3 := hid (show f3 ≠ f0 ∧ f3 ≠ f1 ∧ f3 ≠ f2 from ⟨fun e => hn3 0 true (by omega) (by rw [e]; exact mapped_keep (mapped_keep mapped_some (by decide)) (by omega)), fun e => hn3 1 true (by omega) (by rw [e]; exact mapped_keep mapped_some (by omega)), fun e => hn3 F.toNat true (by omega) (by rw [e]; exact mapped_some)⟩)
  clear hO4 hn3
  go_wp2_with fail
  refine (HO4.out.write (a := 0) (v := 7) (f := f0) (by omega) (by omega) (by omega) (by omega) (mapped_keep (mapped_keep (mapped_keep mapped_some (by decide)) (by omega)) (by omega)) (by omega)).mono ?_
  rintro e w6 ⟨rfl, hO5⟩
  have HO5 := hid hO5
  clear hO5
  go_wp2_with fail
  refine (HO5.out.write (a := 8) (v := 4 * F + 3) (f := f1) (by omega) (by omega) (by omega) (by omega) (mapped_keep (mapped_keep mapped_some (by omega)) (by omega)) (by omega)).mono ?_
  rintro e w7 ⟨rfl, hO6⟩
  have HO6 := hid hO6
  clear hO6
  go_wp2_with fail
  refine (HO6.out.write (a := 8 * F) (v := v) (f := f2) (by omega) (by omega) (by omega) (by omega) (by rw [show (8 * F).toNat / 8 = F.toNat by omega]; exact mapped_keep mapped_some (by omega)) (by omega)).mono ?_
  rintro e w8 ⟨rfl, hO7⟩
  have HO7 := hid hO7
  clear hO7
  go_wp2_with fail
  refine (HO7.out.root (p := 0) (by omega) (by omega)).mono ?_
  rintro e w9 ⟨rfl, hO8⟩
  have hS : Sta _ F.toNat D.toNat f0 f1 f2 f3 v := Sta.of (A := A0) (F := F.toNat) (D := D.toNat) (fun p => HI0.out.pg 1 p) (by omega) (by omega) HN1.out HN2.out HN3.out
  rw [show ((F.toNat : Nat) : Int) = F by omega] at hS
  rw [show (8 * F).toNat % 8 = 0 by omega] at hO8
  have hrt : (((((((((A0.mapped 1 0 f0 true).mapped 1 1 f1 true).mapped 1 F.toNat f2 true).mapped 1 D.toNat f3 true).wrote f0 0 7).wrote f1 0 (4 * F + 3)).wrote f2 0 v).rooted 1 0).rt 1) = 0 := by
    show (if (1 : Int) = 1 then (0 : Int) else A0.rt 1) = 0
    rfl
  have hO8 : One1 (fun b => b < w.heap.size) w w9 mb ((((((((A0.mapped 1 0 f0 true).mapped 1 1 f1 true).mapped 1 F.toNat f2 true).mapped 1 D.toNat f3 true).wrote f0 0 7).wrote f1 0 (4 * F + 3)).wrote f2 0 v).rooted 1 0) 11 17 := hO8
  generalize (((((((A0.mapped 1 0 f0 true).mapped 1 1 f1 true).mapped 1 F.toNat f2 true).mapped 1 D.toNat f3 true).wrote f0 0 7).wrote f1 0 (4 * F + 3)).wrote f2 0 v).rooted 1 0 = A8 at hS hrt hO8
  have HS := hid hS
  have HRT := hid hrt
  have HO8 := hid hO8
  clear hS hrt hO8 HO7 HO6 HO5 HO4 HO3 HO2 HO1 HO0 HI0 HN1 HN2 HN3
  go_wp2_with fail
  refine (HO8.out.loadOk (a := 0) (x := v) (by omega) (by omega) (HS.out.load (by omega) HRT.out) HS.out.w2 (by omega)).mono ?_
  rintro e w10 ⟨rfl, hO9⟩
  have HK9 := hid hO9.k
  have HOX := hid ((hO9.alloc (.cells #[.int .i64 0, .int .i64 0] 47)).alloc (.cells #[.int .i64 0, .int .i64 0] 47))
  have HRX := hid (World.rowIs_alloc (w10.alloc (.cells #[.int .i64 0, .int .i64 0] 47)) #[.int .i64 0, .int .i64 0] 47 (fun _ => .int .i64 0) (fun i hi => by
    have hi : i < 2 := hi
    have e : i = 0 ∨ i = 1 := by omega
    rcases e with e | e <;> subst e <;> rfl))
  have hsz : w.heap.size ≤ w10.heap.size := hO9.k.size
  have HKX : Hid (Keeps (fun b => b < w.heap.size) w ((w10.alloc (.cells #[.int .i64 0, .int .i64 0] 47)).alloc (.cells #[.int .i64 0, .int .i64 0] 47))) := (HK9.out.alloc (fun _ h => h) _).alloc (fun _ h => h) _
  clear hO9
  go_upto_region 20 with fail
  have HR : Hid (((w10.alloc (.cells #[.int .i64 0, .int .i64 0] 47)).alloc (.cells #[.int .i64 0, .int .i64 0] 47)).rowIs (w10.heap.size + 1) 47 2 (fun _ => .int .i64 0)) := by
    have := HRX.out
    rw [World.size_alloc] at this
    exact this
  generalize hB : w10.heap.size + 1 = B at *
  have HBX : Hid (B = (w10.alloc (.cells #[.int .i64 0, .int .i64 0] 47)).heap.size) := by rw [Hid, World.size_alloc]; omega
  have hBw : w.heap.size ≤ B := by omega
  generalize hwX : (w10.alloc (.cells #[.int .i64 0, .int .i64 0] 47)).alloc (.cells #[.int .i64 0, .int .i64 0] 47) = wX at *
  clear hwX hB HRX
  go_wp2_with fail
  refine (pick_any _ a3 5 h3.1 h3.2 (by omega) (by omega)).mono ?_
  rintro e w11 ⟨rfl, rfl⟩
  clear h3
  generalize pickI a3 5 = h at *
  have h5 : h = 0 ∨ h = 1 ∨ h = 2 ∨ h = 3 ∨ h = 4 := by omega
  rcases h5 with rfl | rfl | rfl | rfl | rfl
  · go_wp2_with fail
    refine (HOX.out.write (a := 8) (v := 4 * D + 3) (f := f1) (by omega) (by omega) (by omega) (by omega) HS.out.p1 (by omega)).mono ?_
    rintro e w11 ⟨rfl, hO11⟩
    have hT := HS.out.other (D := D.toNat) (by omega) HRT.out
    rw [show ((D.toNat : Nat) : Int) = D by omega] at hT
    have HT := hid hT
    have HO11 := hid hO11
    clear hO11 hT
    go_wp2_with fail
    refine (HO11.out.loadOk (a := 0) (x := 0) (f := f3) (by omega) (by omega) HT.out.1 HT.out.2 (by omega)).mono ?_
    rintro e w12 ⟨rfl, hO12⟩
    have HR12 := HR.out
    have r12 := hO12.k.row HR12 (Or.inr HBX.out)
    have c0 := r12.cell (i := 0) (by omega)
    have c1 := r12.cell (i := 1) (by omega)
    have c2 := r12.lt
    go_wp2_with fail
    go_ret
    exact ⟨rfl, ((HKX.out.trans (hO12.k.mono (fun b hb => Or.inl (Or.inl hb)))).alloc (fun _ h => h) _).below (fun b hb => hb)⟩
  · go_wp2_with fail
    refine (HOX.out.unmap (p := F) (x := (f2, true)) (by omega) (by omega) HS.out.p2 (fun p' b' _ q => (HS.out.lone p' b').1 q) (by omega)).mono ?_
    rintro e w11 ⟨n, rfl, hO11⟩
    have HT := hid (HS.out.gone (n := n) (by omega) (by omega) HRT.out)
    have HR11 := HR.out
    have r11 := hO11.k.row HR11 (Or.inr HBX.out)
    have c0 := r11.cell (i := 0) (by omega)
    have c1 := r11.cell (i := 1) (by omega)
    have g0 := r11.frozen 0
    have g1 := r11.frozen 1
    have hOS := (hO11.setCell (a := ⟨B, 0, none⟩) (Or.inr HBX.out) (.int .i64 3)).setCell (a := ⟨B, 1, none⟩) (Or.inr HBX.out) (.int .i64 3)
    have rS := (r11.set 0 (.int .i64 3)).set 1 (.int .i64 3)
    have HKS : Hid (Keeps (fun b => b < w.heap.size) w ((w11.setCell ⟨B, 0, none⟩ (.int .i64 3)).setCell ⟨B, 1, none⟩ (.int .i64 3))) := ((HKX.out.trans (hO11.k.mono (fun b hb => Or.inl (Or.inl hb)))).setCell (by show ¬ B < w.heap.size; omega) _).setCell (by show ¬ B < w.heap.size; omega) _
    have HRS := hid rS
    have HOS := hid hOS
    clear hOS rS r11 hO11
    go_wp2_with fail
    refine (HOS.out.loadFault (a := 0) (k := 3) (l := 3) (by omega) (by omega) HT.out (by omega) (by omega)).mono ?_
    rintro e w12 ⟨rfl, hO12⟩
    have r12 := hO12.k.row HRS.out (Or.inr HBX.out)
    have d0 : w12.cell? ⟨B, 0, none⟩ = some (.int .i64 3) := r12.cell (i := 0) (by omega)
    have d1 : w12.cell? ⟨B, 1, none⟩ = some (.int .i64 3) := r12.cell (i := 1) (by omega)
    have d2 := r12.lt
    clear c0 c1 g0 g1
    go_wp2_with fail
    go_ret
    exact ⟨rfl, ((HKS.out.trans (hO12.k.mono (fun b hb => Or.inl (Or.inl hb)))).alloc (fun _ h => h) _).below (fun b hb => hb)⟩
  · go_wp2_with fail
    refine (HOX.out.unmap (p := F) (x := (f2, true)) (by omega) (by omega) HS.out.p2 (fun p' b' _ q => (HS.out.lone p' b').1 q) (by omega)).mono ?_
    rintro e w11 ⟨n, rfl, hO11⟩
    have HO11 := hid hO11
    clear hO11
    go_wp2_with fail
    refine (HO11.out.map true (p := F) (by omega) (by omega) (by show (if (1 : Int) = 1 ∧ F.toNat = F.toNat then none else A8.pg 1 F.toNat) = none; rw [if_pos ⟨rfl, rfl⟩]) (by omega) (by omega)).mono ?_
    rintro e w11' ⟨f, rfl, hO11', hn⟩
    have HT := hid (HS.out.again (n := n) (f := f) (by omega) (by omega) HRT.out hn)
    have HO11' := hid hO11'
    clear hO11' hn
    go_wp2_with fail
    refine (HO11'.out.loadOk (a := 0) (x := 0) (f := f) (by omega) (by omega) HT.out.1 HT.out.2 (by omega)).mono ?_
    rintro e w12 ⟨rfl, hO12⟩
    have HR12 := HR.out
    have r12 := hO12.k.row HR12 (Or.inr HBX.out)
    have c0 := r12.cell (i := 0) (by omega)
    have c1 := r12.cell (i := 1) (by omega)
    have c2 := r12.lt
    go_wp2_with fail
    go_ret
    exact ⟨rfl, ((HKX.out.trans (hO12.k.mono (fun b hb => Or.inl (Or.inl hb)))).alloc (fun _ h => h) _).below (fun b hb => hb)⟩
  · go_wp2_with fail
    refine (HOX.out.unmap (p := 1) (x := (f1, true)) (by omega) (by omega) HS.out.p1 (fun p' b' _ q => (HS.out.lone p' b').2 q) (by omega)).mono ?_
    rintro e w11 ⟨n, rfl, hO11⟩
    have HT := hid (HS.out.table (n := n) HRT.out)
    have HR11 := HR.out
    have r11 := hO11.k.row HR11 (Or.inr HBX.out)
    have c0 := r11.cell (i := 0) (by omega)
    have c1 := r11.cell (i := 1) (by omega)
    have g0 := r11.frozen 0
    have g1 := r11.frozen 1
    have hOS := (hO11.setCell (a := ⟨B, 0, none⟩) (Or.inr HBX.out) (.int .i64 3)).setCell (a := ⟨B, 1, none⟩) (Or.inr HBX.out) (.int .i64 2)
    have rS := (r11.set 0 (.int .i64 3)).set 1 (.int .i64 2)
    have HKS : Hid (Keeps (fun b => b < w.heap.size) w ((w11.setCell ⟨B, 0, none⟩ (.int .i64 3)).setCell ⟨B, 1, none⟩ (.int .i64 2))) := ((HKX.out.trans (hO11.k.mono (fun b hb => Or.inl (Or.inl hb)))).setCell (by show ¬ B < w.heap.size; omega) _).setCell (by show ¬ B < w.heap.size; omega) _
    have HRS := hid rS
    have HOS := hid hOS
    clear hOS rS r11 hO11
    go_wp2_with fail
    refine (HOS.out.loadFault (a := 0) (k := 3) (l := 2) (by omega) (by omega) HT.out (by omega) (by omega)).mono ?_
    rintro e w12 ⟨rfl, hO12⟩
    have r12 := hO12.k.row HRS.out (Or.inr HBX.out)
    have d0 : w12.cell? ⟨B, 0, none⟩ = some (.int .i64 3) := r12.cell (i := 0) (by omega)
    have d1 : w12.cell? ⟨B, 1, none⟩ = some (.int .i64 2) := r12.cell (i := 1) (by omega)
    have d2 := r12.lt
    clear c0 c1 g0 g1
    go_wp2_with fail
    go_ret
    exact ⟨rfl, ((HKS.out.trans (hO12.k.mono (fun b hb => Or.inl (Or.inl hb)))).alloc (fun _ h => h) _).below (fun b hb => hb)⟩
  · go_wp2_with fail
    refine (HOX.out.root (p := -1) (by omega) (by omega)).mono ?_
    rintro e w11 ⟨rfl, hO11⟩
    have hT : ((A8.up 3).rooted 1 (-1)).turned 1 0 false = (f0, 0, 0) := by
      exact (turned_plain (A := (A8.up 3).rooted 1 (-1)) (by show (if (1 : Int) = 1 then (-1 : Int) else A8.rt 1) = -1; rfl)).trans (lev0_go (A := (A8.up 3).rooted 1 (-1)) (b := true) (f := f0) HS.out.p0 (fun e => by cases e))
    have HT := hid hT
    have HO11 := hid hO11
    clear hO11 hT
    go_wp2_with fail
    refine (HO11.out.loadOk (a := 0) (x := 7) (f := f0) (by omega) (by omega) HT.out HS.out.w0 (by omega)).mono ?_
    rintro e w12 ⟨rfl, hO12⟩
    have HR12 := HR.out
    have r12 := hO12.k.row HR12 (Or.inr HBX.out)
    have c0 := r12.cell (i := 0) (by omega)
    have c1 := r12.cell (i := 1) (by omega)
    have c2 := r12.lt
    go_wp2_with fail
    go_ret
    exact ⟨rfl, ((HKX.out.trans (hO12.k.mono (fun b hb => Or.inl (Or.inl hb)))).alloc (fun _ h => h) _).below (fun b hb => hb)⟩
end Go.Proofs.Ytfcepnhknmbaaaa
