/- The states of the law Walked: a root page, a table and a page, put together; what is broken, and the fault that it comes to. -/
import Derived.Test.YtfcepnhknmbaaaaStaleWalk
namespace Go.Proofs.Ytfcepnhknmbaaaa
open Go.RowKit Go.Deep

theorem bits_one {t c : Int} (h0 : 0 ≤ t) (h1 : t < 64) (hc : c % 256 = 0) :
    (pres (3 + 4 * t + c) = true ∧ wrib (3 + 4 * t + c) = true ∧ numb (3 + 4 * t + c) = t.toNat) ∧ pres (3 + 4 * t + c - 1) = false ∧ (pres (3 + 4 * t + c - 2) = true ∧ wrib (3 + 4 * t + c - 2) = false ∧ numb (3 + 4 * t + c - 2) = t.toNat) := by
  refine ⟨⟨?_, ?_, ?_⟩, ?_, ?_, ?_, ?_⟩
  · simp only [pres, beq_iff_eq]; omega
  · simp only [wrib, beq_iff_eq]; omega
  · simp only [numb]; omega
  · simp only [pres, beq_eq_false_iff_ne, ne_eq]; omega
  · simp only [pres, beq_iff_eq]; omega
  · simp only [wrib, beq_eq_false_iff_ne, ne_eq]; omega
  · simp only [numb]; omega

/-- What the law breaks. -/
def Brk (h t p x1 x2 K L : Int) : Prop :=
  (h = 0 ∧ x1 = 3 + 4 * t + 256 ∧ x2 = 3 + 4 * p + 4096 ∧ K = 0 ∧ L = 0) ∨ (h = 1 ∧ x1 = 3 + 4 * t + 256 - 1 ∧ x2 = 3 + 4 * p + 4096 ∧ K = 1 ∧ L = 1) ∨ (h = 2 ∧ x1 = 3 + 4 * t + 256 - 2 ∧ x2 = 3 + 4 * p + 4096 ∧ K = 2 ∧ L = 1) ∨
  (h = 3 ∧ x1 = 3 + 4 * t + 256 ∧ x2 = 3 + 4 * p + 4096 - 1 ∧ K = 1 ∧ L = 2) ∨ (h = 4 ∧ x1 = 3 + 4 * t + 256 ∧ x2 = 3 + 4 * p + 4096 - 2 ∧ K = 2 ∧ L = 2) ∨ (h = 5 ∧ x1 = 3 + 4 * t + 256 ∧ x2 = 3 + 4 * p + 4096 ∧ K = 3 ∧ L = 1) ∨
  (h = 6 ∧ x1 = 3 + 4 * t + 256 ∧ x2 = 3 + 4 * p + 4096 ∧ K = 3 ∧ L = 2) ∨ (h = 7 ∧ x1 = 3 + 4 * t + 256 ∧ x2 = 3 + 4 * p + 4096 ∧ K = 3 ∧ L = 3) ∨ (h = 8 ∧ x1 = 3 + 4 * t + 256 ∧ x2 = 3 + 4 * p + 4096 ∧ K = 4 ∧ L = 3)

theorem Brk.bd {h t p x1 x2 K L : Int} (b : Brk h t p x1 x2 K L) (ht : 20 ≤ t ∧ t < 40) (hp : 40 ≤ p ∧ p < 64) : (0 ≤ x1 ∧ x1 ≤ 65535) ∧ 0 ≤ x2 ∧ x2 ≤ 65535 := by
  simp only [Brk] at b
  omega

theorem Brk.kl {h t p x1 x2 K L : Int} (b : Brk h t p x1 x2 K L) : K = 0 ∧ L = 0 ∨ K = 2 ∨ K = 4 ∨ K = 1 ∨ K = 3 := by
  rcases b with ⟨_, _, _, rfl, rfl⟩ | ⟨_, _, _, rfl, rfl⟩ | ⟨_, _, _, rfl, rfl⟩ | ⟨_, _, _, rfl, rfl⟩ | ⟨_, _, _, rfl, rfl⟩ | ⟨_, _, _, rfl, rfl⟩ | ⟨_, _, _, rfl, rfl⟩ | ⟨_, _, _, rfl, rfl⟩ | ⟨_, _, _, rfl, rfl⟩ <;> simp

/-- The state that was put together. -/
structure Wst (A : Abs) (R T P i j : Nat) (f0 f1 f2 : Nat) (b : Bool) (x1 x2 : Int) : Prop where
  p0 : A.pg 1 R = some (f0, true)
  p1 : A.pg 1 T = some (f1, true)
  p2 : A.pg 1 P = some (f2, b)
  oth : ∀ q, q ≠ R → q ≠ T → q ≠ P → A.pg 1 q = none
  d01 : f0 ≠ f1
  d02 : f0 ≠ f2
  d12 : f1 ≠ f2
  w0 : A.wd f0 i = x1
  w1 : A.wd f1 j = x2
  w2 : ∀ k, A.wd f2 k = 0
  rt : A.rt 1 = R

theorem Wst.of {A : Abs} {R T P i j f0 f1 f2 : Nat} {b : Bool} {x1 x2 : Int} (h : ∀ p, A.pg 1 p = none) (hR : R < 20) (hT : 20 ≤ T ∧ T < 40) (hP : 40 ≤ P) (n1 : f1 ≠ f0) (n2 : f2 ≠ f0 ∧ f2 ≠ f1) :
    Wst ((((((A.mapped 1 R f0 true).mapped 1 T f1 true).mapped 1 P f2 b).wrote f0 i x1).wrote f1 j x2).rooted 1 R) R T P i j f0 f1 f2 b x1 x2 := by
  have hpg : ∀ p, ((((((A.mapped 1 R f0 true).mapped 1 T f1 true).mapped 1 P f2 b).wrote f0 i x1).wrote f1 j x2).rooted 1 R).pg 1 p = if p = P then some (f2, b) else if p = T then some (f1, true) else if p = R then some (f0, true) else none := fun p => by
    show (if (1 : Int) = 1 ∧ p = P then some (f2, b) else if (1 : Int) = 1 ∧ p = T then some (f1, true) else if (1 : Int) = 1 ∧ p = R then some (f0, true) else A.pg 1 p) = _
    simp only [true_and, h]
  have hwd : ∀ f k, ((((((A.mapped 1 R f0 true).mapped 1 T f1 true).mapped 1 P f2 b).wrote f0 i x1).wrote f1 j x2).rooted 1 R).wd f k = if f = f1 ∧ k = j then x2 else if f = f0 ∧ k = i then x1 else if f = f2 then 0 else if f = f1 then 0 else if f = f0 then 0 else A.wd f k := fun f k => rfl
  refine ⟨?_, ?_, ?_, ?_, fun e => n1 e.symm, fun e => n2.1 e.symm, fun e => n2.2 e.symm, ?_, ?_, ?_, rfl⟩
  · rw [hpg, if_neg (by omega), if_neg (by omega), if_pos rfl]
  · rw [hpg, if_neg (by omega), if_pos rfl]
  · rw [hpg, if_pos rfl]
  · intro q h0 h1 h2
    rw [hpg, if_neg h2, if_neg h1, if_neg h0]
  · rw [hwd, if_neg (fun e => n1 e.1.symm), if_pos ⟨rfl, rfl⟩]
  · rw [hwd, if_pos ⟨rfl, rfl⟩]
  · intro k
    rw [hwd, if_neg (fun e => n2.2 e.1), if_neg (fun e => n2.1 e.1), if_pos rfl]

theorem Wst.lone {A : Abs} {R T P i j f0 f1 f2 : Nat} {b : Bool} {x1 x2 : Int} (h : Wst A R T P i j f0 f1 f2 b x1 x2) (p : Nat) (b' : Bool) : (A.pg 1 p = some (f0, b') → p = R) ∧ (A.pg 1 p = some (f1, b') → p = T) ∧ (A.pg 1 p = some (f2, b') → p = P) := by
  have key : ∀ x, A.pg 1 p = some (x, b') → (p = R ∧ x = f0) ∨ (p = T ∧ x = f1) ∨ (p = P ∧ x = f2) := fun x e => by
    by_cases q0 : p = R
    · rw [q0, h.p0] at e; injection e with e; injection e with e _; exact Or.inl ⟨q0, e.symm⟩
    · by_cases q1 : p = T
      · rw [q1, h.p1] at e; injection e with e; injection e with e _; exact Or.inr (Or.inl ⟨q1, e.symm⟩)
      · by_cases q2 : p = P
        · rw [q2, h.p2] at e; injection e with e; injection e with e _; exact Or.inr (Or.inr ⟨q2, e.symm⟩)
        · rw [h.oth p q0 q1 q2] at e; cases e
  refine ⟨fun e => ?_, fun e => ?_, fun e => ?_⟩
  · rcases key f0 e with ⟨q, _⟩ | ⟨_, q⟩ | ⟨_, q⟩
    · exact q
    · exact absurd q h.d01
    · exact absurd q h.d02
  · rcases key f1 e with ⟨_, q⟩ | ⟨q, _⟩ | ⟨_, q⟩
    · exact absurd q.symm h.d01
    · exact q
    · exact absurd q h.d12
  · rcases key f2 e with ⟨_, q⟩ | ⟨_, q⟩ | ⟨q, _⟩
    · exact absurd q.symm h.d02
    · exact absurd q.symm h.d12
    · exact q

/-- What the law asks of the state, behind what it broke. -/
structure Wk (A : Abs) (a P f2 : Nat) (K L : Int) : Prop where
  st : (A.turned 1 (a / 8) true) = (if K = 0 then f2 else 0, K, L)
  k0 : K = 0 → (∀ v, (A.stored f2 (a % 8) v).turned 1 (a / 8) false = (f2, 0, 0)) ∧ A.pg 1 P = some (f2, true)
  kd : K = 2 ∨ K = 4 → A.turned 1 (a / 8) false = (f2, 0, 0) ∧ A.wd f2 (a % 8) = 0
  kx : K = 1 ∨ K = 3 → A.turned 1 (a / 8) false = (0, K, L)

section
variable {C : Abs} {R T P f0 f1 f2 a : Nat} {b0 b1 : Bool} {x1 x2 : Int} {st : Bool}

theorem to1 (hr : C.rt 1 = R) : C.turned 1 (a / 8) st = C.lev 1 (a / 8) st 2 R := by
  have := turned_by (A := C) (g := 1) (p := a / 8) (st := st) hr (by omega)
  rw [Int.toNat_natCast] at this
  exact this
theorem idx1 : idx ((2 : Int) - (1 : Nat)) (a / 8) = a / 64 := by simp only [idx]; rw [if_pos (by omega)]; omega
theorem idx2 : idx ((2 : Int) - (0 : Nat)) (a / 8) = a / 8 % 8 := by simp only [idx]; rw [if_neg (by omega)]

theorem go1 (h0 : C.pg 1 R = some (f0, b0)) (w0 : C.wd f0 (a / 64) = x1) (e1 : pres x1 = true) (e2 : st = true → wrib x1 = true) (e3 : numb x1 = T) : C.lev 1 (a / 8) st 2 R = C.lev 1 (a / 8) st 1 T := by
  have := lev_go (A := C) (g := 1) (p := a / 8) (q := R) (n := 1) (st := st) (x := x1) h0 (by rw [idx1]; exact w0) e1 e2
  rw [e3] at this
  exact this
theorem go2 (h1 : C.pg 1 T = some (f1, b1)) (w1 : C.wd f1 (a / 8 % 8) = x2) (e1 : pres x2 = true) (e2 : st = true → wrib x2 = true) (e3 : numb x2 = P) : C.lev 1 (a / 8) st 1 T = C.lev 1 (a / 8) st 0 P := by
  have := lev_go (A := C) (g := 1) (p := a / 8) (q := T) (n := 0) (st := st) (x := x2) h1 (by rw [idx2]; exact w1) e1 e2
  rw [e3] at this
  exact this
end

/-- Nothing is broken that lies in a page that is gone. -/
theorem Wst.wk {A : Abs} {R T P a f0 f1 f2 : Nat} {b : Bool} {x1 x2 h t p K L : Int} (s : Wst A R T P (a / 64) (a / 8 % 8) f0 f1 f2 b x1 x2) (hb : Brk h t p x1 x2 K L) (hT : t.toNat = T) (hP : p.toNat = P) (ht0 : 20 ≤ t ∧ t < 40) (hp0 : 40 ≤ p ∧ p < 64) (hh : h ≤ 4 ∨ h = 8) (hbb : b = decide (h ≠ 8)) : Wk A a P f2 K L := by
  obtain ⟨⟨o1, o2, o3⟩, o4, o5, o6, o7⟩ := bits_one (t := t) (c := 256) (by omega) (by omega) (by decide)
  obtain ⟨⟨p1, p2, p3⟩, p4, p5, p6, p7⟩ := bits_one (t := p) (c := 4096) (by omega) (by omega) (by decide)
  rw [hT] at o3 o7
  rw [hP] at p3 p7
  rcases hb with ⟨rfl, rfl, rfl, rfl, rfl⟩ | ⟨rfl, rfl, rfl, rfl, rfl⟩ | ⟨rfl, rfl, rfl, rfl, rfl⟩ | ⟨rfl, rfl, rfl, rfl, rfl⟩ | ⟨rfl, rfl, rfl, rfl, rfl⟩ | ⟨rfl, rfl, rfl, rfl, rfl⟩ | ⟨rfl, rfl, rfl, rfl, rfl⟩ | ⟨rfl, rfl, rfl, rfl, rfl⟩ | ⟨rfl, rfl, rfl, rfl, rfl⟩
  · have hbt : b = true := by rw [hbb]; rfl
    subst hbt
    refine ⟨?_, fun _ => ⟨fun v => ?_, s.p2⟩, fun q => absurd q (by decide), fun q => absurd q (by decide)⟩
    · rw [to1 s.rt, go1 s.p0 s.w0 o1 (fun _ => o2) o3, go2 s.p1 s.w1 p1 (fun _ => p2) p3, lev0_go s.p2 (fun _ => rfl)]
      rfl
    · have q0 : (A.stored f2 (a % 8) v).wd f0 (a / 64) = 3 + 4 * t + 256 := by
        show (if f0 = f2 ∧ a / 64 = a % 8 then v else A.wd f0 (a / 64)) = _
        rw [if_neg (fun e => s.d02 e.1)]
        exact s.w0
      have q1 : (A.stored f2 (a % 8) v).wd f1 (a / 8 % 8) = 3 + 4 * p + 4096 := by
        show (if f1 = f2 ∧ a / 8 % 8 = a % 8 then v else A.wd f1 (a / 8 % 8)) = _
        rw [if_neg (fun e => s.d12 e.1)]
        exact s.w1
      exact (to1 (C := A.stored f2 (a % 8) v) s.rt).trans ((go1 (C := A.stored f2 (a % 8) v) s.p0 q0 o1 (fun _ => o2) o3).trans ((go2 (C := A.stored f2 (a % 8) v) s.p1 q1 p1 (fun _ => p2) p3).trans (lev0_go (A := A.stored f2 (a % 8) v) s.p2 (fun _ => rfl))))
  · have e : ∀ st, A.turned 1 (a / 8) st = (0, 1, 1) := fun st => by
      rw [to1 s.rt, lev_abs (n := 1) s.p0 (by rw [idx1]; exact s.w0) o4]
      rfl
    exact ⟨by rw [e]; rfl, fun q => absurd q (by decide), fun q => absurd q (by decide), fun _ => e false⟩
  · refine ⟨?_, fun q => absurd q (by decide), fun _ => ⟨?_, s.w2 _⟩, fun q => absurd q (by decide)⟩
    · rw [to1 s.rt, lev_den (n := 1) s.p0 (by rw [idx1]; exact s.w0) o5 o6]
      rfl
    · rw [to1 s.rt, go1 s.p0 s.w0 o5 (fun e => by cases e) o7, go2 s.p1 s.w1 p1 (fun e => by cases e) p3, lev0_go s.p2 (fun e => by cases e)]
  · have e : ∀ st, A.turned 1 (a / 8) st = (0, 1, 2) := fun st => by
      rw [to1 s.rt, go1 s.p0 s.w0 o1 (fun _ => o2) o3, lev_abs (n := 0) s.p1 (by rw [idx2]; exact s.w1) p4]
      rfl
    exact ⟨by rw [e]; rfl, fun q => absurd q (by decide), fun q => absurd q (by decide), fun _ => e false⟩
  · refine ⟨?_, fun q => absurd q (by decide), fun _ => ⟨?_, s.w2 _⟩, fun q => absurd q (by decide)⟩
    · rw [to1 s.rt, go1 s.p0 s.w0 o1 (fun _ => o2) o3, lev_den (n := 0) s.p1 (by rw [idx2]; exact s.w1) p5 p6]
      rfl
    · rw [to1 s.rt, go1 s.p0 s.w0 o1 (fun e => by cases e) o3, go2 s.p1 s.w1 p5 (fun e => by cases e) p7, lev0_go s.p2 (fun e => by cases e)]
  · omega
  · omega
  · omega
  · have hbf : b = false := by rw [hbb]; rfl
    subst hbf
    refine ⟨?_, fun q => absurd q (by decide), fun _ => ⟨?_, s.w2 _⟩, fun q => absurd q (by decide)⟩
    · rw [to1 s.rt, go1 s.p0 s.w0 o1 (fun _ => o2) o3, go2 s.p1 s.w1 p1 (fun _ => p2) p3, lev0_den s.p2]
      rfl
    · rw [to1 s.rt, go1 s.p0 s.w0 o1 (fun e => by cases e) o3, go2 s.p1 s.w1 p1 (fun e => by cases e) p3, lev0_go s.p2 (fun e => by cases e)]

/-- The root page, the table or the page is gone. -/
theorem Wst.wkGone {A : Abs} {R T P a f0 f1 f2 n : Nat} {b : Bool} {x1 x2 h t p K L : Int} (s : Wst A R T P (a / 64) (a / 8 % 8) f0 f1 f2 b x1 x2) (hb : Brk h t p x1 x2 K L) (hT : t.toNat = T) (hP : p.toNat = P) (ht0 : 20 ≤ t ∧ t < 40) (hp0 : 40 ≤ p ∧ p < 64) (hR : R < 20) :
    (h = 5 → Wk (A.unmapped 1 R n) a P f2 K L) ∧ (h = 6 → Wk (A.unmapped 1 T n) a P f2 K L) ∧ (h = 7 → Wk (A.unmapped 1 P n) a P f2 K L) := by
  obtain ⟨⟨o1, o2, o3⟩, _⟩ := bits_one (t := t) (c := 256) (by omega) (by omega) (by decide)
  obtain ⟨⟨p1, p2, p3⟩, _⟩ := bits_one (t := p) (c := 4096) (by omega) (by omega) (by decide)
  rw [hT] at o3
  rw [hP] at p3
  have hpg : ∀ Q q, (A.unmapped 1 Q n).pg 1 q = if q = Q then none else A.pg 1 q := fun Q q => by
    show (if (1 : Int) = 1 ∧ q = Q then none else A.pg 1 q) = _
    simp only [true_and]
  refine ⟨fun e => ?_, fun e => ?_, fun e => ?_⟩
  · obtain ⟨rfl, rfl⟩ : K = 3 ∧ L = 1 := by simp only [Brk] at hb; omega
    have e : ∀ st, (A.unmapped 1 R n).turned 1 (a / 8) st = (0, 3, 1) := fun st =>
      (to1 (C := A.unmapped 1 R n) s.rt).trans ((lev_none (n := 1) (by rw [hpg, if_pos rfl])).trans rfl)
    exact ⟨by rw [e]; rfl, fun q => absurd q (by decide), fun q => absurd q (by decide), fun _ => e false⟩
  · obtain ⟨rfl, rfl, rfl⟩ : K = 3 ∧ L = 2 ∧ x1 = 3 + 4 * t + 256 := by simp only [Brk] at hb; omega
    have e : ∀ st, (A.unmapped 1 T n).turned 1 (a / 8) st = (0, 3, 2) := fun st =>
      (to1 (C := A.unmapped 1 T n) s.rt).trans ((go1 (C := A.unmapped 1 T n) (b0 := true) (by rw [hpg, if_neg (by omega)]; exact s.p0) s.w0 o1 (fun _ => o2) o3).trans ((lev_none (n := 0) (by rw [hpg, if_pos rfl])).trans rfl))
    exact ⟨by rw [e]; rfl, fun q => absurd q (by decide), fun q => absurd q (by decide), fun _ => e false⟩
  · obtain ⟨rfl, rfl, rfl, rfl⟩ : K = 3 ∧ L = 3 ∧ x1 = 3 + 4 * t + 256 ∧ x2 = 3 + 4 * p + 4096 := by simp only [Brk] at hb; omega
    have e : ∀ st, (A.unmapped 1 P n).turned 1 (a / 8) st = (0, 3, 3) := fun st =>
      (to1 (C := A.unmapped 1 P n) s.rt).trans ((go1 (C := A.unmapped 1 P n) (b0 := true) (by rw [hpg, if_neg (by omega)]; exact s.p0) s.w0 o1 (fun _ => o2) o3).trans ((go2 (C := A.unmapped 1 P n) (b1 := true) (by rw [hpg, if_neg (by omega)]; exact s.p1) s.w1 p1 (fun _ => p2) p3).trans (lev0_none (by rw [hpg, if_pos rfl]))))
    exact ⟨by rw [e]; rfl, fun q => absurd q (by decide), fun q => absurd q (by decide), fun _ => e false⟩
end Go.Proofs.Ytfcepnhknmbaaaa
