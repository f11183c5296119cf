/- The law Apart, plainly: a guest sees the same in two machines ('Sim'); what another guest does changes nothing of it ('Quiet'). -/
import Derived.Test.YtfcepnhknmbaaaaAbsD
namespace Go.Proofs.Ytfcepnhknmbaaaa
open Go.RowKit Go.Deep

/-- Three guests, few pages, nothing shared between two of them. -/
structure Tri (A : Abs) : Prop where
  n : A.n = 64
  has : ∀ g : Int, A.has g = decide (1 ≤ g ∧ g ≤ 3)
  lo : ∀ g p, 16 ≤ p → p < 64 → A.pg g p = none
  sep : ∀ g1 g2 p1 p2 f b1 b2, p1 < 64 → p2 < 64 → A.pg g1 p1 = some (f, b1) → A.pg g2 p2 = some (f, b2) → g1 = g2

/-- What others see is as it was. -/
structure Quiet (A A' : Abs) (g : Int) : Prop where
  pg : ∀ g' p, g' ≠ g → A'.pg g' p = A.pg g' p
  rt : ∀ g', g' ≠ g → A'.rt g' = A.rt g'
  wd : ∀ g' p f b k, g' ≠ g → p < 64 → A.pg g' p = some (f, b) → A'.wd f k = A.wd f k

/-- A guest sees the same in both. -/
structure Sim (A B : Abs) (g : Int) : Prop where
  sh : ∀ p, p < 64 → (A.pg g p).map Prod.snd = (B.pg g p).map Prod.snd
  fr : ∀ p q f f' h h' b1 b2 b3 b4, p < 64 → q < 64 → A.pg g p = some (f, b1) → A.pg g q = some (f', b2) → B.pg g p = some (h, b3) → B.pg g q = some (h', b4) → (f = f' ↔ h = h')
  wd : ∀ p f b h b', p < 64 → A.pg g p = some (f, b) → B.pg g p = some (h, b') → ∀ k, A.wd f k = B.wd h k
  rt : A.rt g = B.rt g

section
variable {A A' B B' : Abs} {g : Int}

theorem Sim.pair (s : Sim A B g) {p : Nat} (hp : p < 64) : (A.pg g p = none ∧ B.pg g p = none) ∨ ∃ f h b, A.pg g p = some (f, b) ∧ B.pg g p = some (h, b) := by
  have e := s.sh p hp
  cases ha : A.pg g p with
  | none =>
    rw [ha] at e
    cases hb : B.pg g p with
    | none => exact Or.inl ⟨rfl, rfl⟩
    | some y => rw [hb] at e; cases e
  | some x =>
    rw [ha] at e
    cases hb : B.pg g p with
    | none => rw [hb] at e; cases e
    | some y =>
      rw [hb] at e
      obtain ⟨f, b⟩ := x
      obtain ⟨h, b'⟩ := y
      have e : some b = some b' := e
      injection e with e
      subst e
      exact Or.inr ⟨f, h, b, rfl, rfl⟩

/-- Only what it sees counts. -/
theorem Sim.congr (s : Sim A B g) (h1 : A'.pg = A.pg) (h2 : A'.wd = A.wd) (h3 : A'.rt = A.rt) (h4 : B'.pg = B.pg) (h5 : B'.wd = B.wd) (h6 : B'.rt = B.rt) : Sim A' B' g := by
  refine ⟨?_, ?_, ?_, ?_⟩
  · rw [h1, h4]; exact s.sh
  · rw [h1, h4]; exact s.fr
  · rw [h1, h2, h4, h5]; exact s.wd
  · rw [h3, h6]; exact s.rt

/-- Another one's step, in the first machine alone. -/
theorem Sim.quiet {o : Int} (s : Sim A B g) (q : Quiet A A' o) (ho : g ≠ o) : Sim A' B g := by
  refine ⟨fun p hp => ?_, fun p q' f f' h h' b1 b2 b3 b4 hp hq => ?_, fun p f b h b' hp e1 e2 k => ?_, ?_⟩
  · rw [q.pg g p ho]; exact s.sh p hp
  · rw [q.pg g p ho, q.pg g q' ho]; exact s.fr p q' f f' h h' b1 b2 b3 b4 hp hq
  · rw [q.pg g p ho] at e1
    rw [q.wd g p f b k ho hp e1]
    exact s.wd p f b h b' hp e1 e2 k
  · rw [q.rt g ho]; exact s.rt

theorem Quiet.refl (A : Abs) (g : Int) : Quiet A A g := ⟨fun _ _ _ => rfl, fun _ _ => rfl, fun _ _ _ _ _ _ _ _ => rfl⟩
theorem Quiet.same (h1 : A'.pg = A.pg) (h2 : A'.wd = A.wd) (h3 : A'.rt = A.rt) : Quiet A A' g := ⟨fun _ _ _ => by rw [h1], fun _ _ => by rw [h3], fun _ _ _ _ _ _ _ _ => by rw [h2]⟩
theorem Tri.same (t : Tri A) (h0 : A'.n = A.n) (h1 : A'.pg = A.pg) (h2 : A'.has = A.has) : Tri A' := ⟨by rw [h0]; exact t.n, by rw [h2]; exact t.has, by rw [h1]; exact t.lo, by rw [h1]; exact t.sep⟩

/-! Map. -/
theorem Tri.mapped (t : Tri A) {p f : Nat} {b : Bool} (hp : p < 16) (hn : A.New f) : Tri (A.mapped g p f b) ∧ Quiet A (A.mapped g p f b) g := by
  have hpg : ∀ g' p', (A.mapped g p f b).pg g' p' = if g' = g ∧ p' = p then some (f, b) else A.pg g' p' := fun _ _ => rfl
  refine ⟨⟨t.n, t.has, fun g' p' h1 h2 => ?_, fun g1 g2 p1 p2 f' b1 b2 h1 h2 e1 e2 => ?_⟩, ⟨fun g' p' hg => ?_, fun _ _ => rfl, fun g' p' f' b' k hg hp' e => ?_⟩⟩
  · rw [hpg, if_neg (by omega)]
    exact t.lo g' p' h1 h2
  · rw [hpg] at e1 e2
    by_cases a1 : g1 = g ∧ p1 = p
    · by_cases a2 : g2 = g ∧ p2 = p
      · rw [a1.1, a2.1]
      · rw [if_pos a1] at e1
        rw [if_neg a2] at e2
        injection e1 with e1
        injection e1 with e1 _
        rw [← e1] at e2
        exact absurd e2 (hn.2 g2 p2 b2 h2)
    · rw [if_neg a1] at e1
      by_cases a2 : g2 = g ∧ p2 = p
      · rw [if_pos a2] at e2
        injection e2 with e2
        injection e2 with e2 _
        rw [← e2] at e1
        exact absurd e1 (hn.2 g1 p1 b1 h1)
      · rw [if_neg a2] at e2
        exact t.sep g1 g2 p1 p2 f' b1 b2 h1 h2 e1 e2
  · rw [hpg, if_neg (fun e => hg e.1)]
  · show (if f' = f then 0 else A.wd f' k) = A.wd f' k
    rw [if_neg (fun q => hn.2 g' p' b' hp' (by rw [← q]; exact e))]

theorem Sim.mapped (s : Sim A B g) {p f h : Nat} {b : Bool} (hf : A.New f) (hh : B.New h) : Sim (A.mapped g p f b) (B.mapped g p h b) g := by
  have ha : ∀ p', (A.mapped g p f b).pg g p' = if p' = p then some (f, b) else A.pg g p' := fun p' => by
    show (if g = g ∧ p' = p then some (f, b) else A.pg g p') = _
    simp only [true_and]
  have hb : ∀ p', (B.mapped g p h b).pg g p' = if p' = p then some (h, b) else B.pg g p' := fun p' => by
    show (if g = g ∧ p' = p then some (h, b) else B.pg g p') = _
    simp only [true_and]
  refine ⟨fun q hq => ?_, fun q r f1 f2 h1 h2 c1 c2 c3 c4 hq hr e1 e2 e3 e4 => ?_, fun q f1 c1 h1 c2 hq e1 e2 k => ?_, s.rt⟩
  · rw [ha, hb]
    by_cases e : q = p
    · rw [if_pos e, if_pos e]; rfl
    · rw [if_neg e, if_neg e]; exact s.sh q hq
  · rw [ha] at e1 e2
    rw [hb] at e3 e4
    by_cases a1 : q = p
    · by_cases a2 : r = p
      · rw [if_pos a1] at e1 e3
        rw [if_pos a2] at e2 e4
        injection e1 with e1; injection e1 with e1 _
        injection e2 with e2; injection e2 with e2 _
        injection e3 with e3; injection e3 with e3 _
        injection e4 with e4; injection e4 with e4 _
        subst e1 e2 e3 e4
        exact ⟨fun _ => rfl, fun _ => rfl⟩
      · rw [if_pos a1] at e1 e3
        rw [if_neg a2] at e2 e4
        injection e1 with e1; injection e1 with e1 _
        injection e3 with e3; injection e3 with e3 _
        subst e1 e3
        exact ⟨fun x => absurd (by rw [x]; exact e2) (hf.2 g r c2 hr), fun x => absurd (by rw [x]; exact e4) (hh.2 g r c4 hr)⟩
    · rw [if_neg a1] at e1 e3
      by_cases a2 : r = p
      · rw [if_pos a2] at e2 e4
        injection e2 with e2; injection e2 with e2 _
        injection e4 with e4; injection e4 with e4 _
        subst e2 e4
        exact ⟨fun x => absurd (by rw [← x]; exact e1) (hf.2 g q c1 hq), fun x => absurd (by rw [← x]; exact e3) (hh.2 g q c3 hq)⟩
      · rw [if_neg a2] at e2 e4
        exact s.fr q r f1 f2 h1 h2 c1 c2 c3 c4 hq hr e1 e2 e3 e4
  · rw [ha] at e1
    rw [hb] at e2
    show (if f1 = f then 0 else A.wd f1 k) = (if h1 = h then 0 else B.wd h1 k)
    by_cases a1 : q = p
    · rw [if_pos a1] at e1 e2
      injection e1 with e1; injection e1 with e1 _
      injection e2 with e2; injection e2 with e2 _
      rw [if_pos e1.symm, if_pos e2.symm]
    · rw [if_neg a1] at e1 e2
      rw [if_neg (fun x => hf.2 g q c1 hq (by rw [← x]; exact e1)), if_neg (fun x => hh.2 g q c2 hq (by rw [← x]; exact e2))]
      exact s.wd q f1 c1 h1 c2 hq e1 e2 k

/-! Unmap. -/
theorem Tri.unmapped (t : Tri A) {p n : Nat} : Tri (A.unmapped g p n) ∧ Quiet A (A.unmapped g p n) g := by
  have hpg : ∀ g' p', (A.unmapped g p n).pg g' p' = if g' = g ∧ p' = p then none else A.pg g' p' := fun _ _ => rfl
  refine ⟨⟨t.n, t.has, fun g' p' h1 h2 => ?_, fun g1 g2 p1 p2 f' b1 b2 h1 h2 e1 e2 => ?_⟩, ⟨fun g' p' hg => ?_, fun _ _ => rfl, fun _ _ _ _ _ _ _ _ => rfl⟩⟩
  · rw [hpg]
    split
    · rfl
    · exact t.lo g' p' h1 h2
  · rw [hpg] at e1 e2
    split at e1
    · cases e1
    · split at e2
      · cases e2
      · exact t.sep g1 g2 p1 p2 f' b1 b2 h1 h2 e1 e2
  · rw [hpg, if_neg (fun e => hg e.1)]

theorem Sim.unmapped (s : Sim A B g) {p n m : Nat} : Sim (A.unmapped g p n) (B.unmapped g p m) g := by
  have ha : ∀ p', (A.unmapped g p n).pg g p' = if p' = p then none else A.pg g p' := fun p' => by
    show (if g = g ∧ p' = p then none else A.pg g p') = _
    simp only [true_and]
  have hb : ∀ p', (B.unmapped g p m).pg g p' = if p' = p then none else B.pg g p' := fun p' => by
    show (if g = g ∧ p' = p then none else B.pg g p') = _
    simp only [true_and]
  refine ⟨fun q hq => ?_, fun q r f1 f2 h1 h2 c1 c2 c3 c4 hq hr e1 e2 e3 e4 => ?_, fun q f1 c1 h1 c2 hq e1 e2 k => ?_, s.rt⟩
  · rw [ha, hb]
    by_cases e : q = p
    · rw [if_pos e, if_pos e]
    · rw [if_neg e, if_neg e]; exact s.sh q hq
  · rw [ha] at e1 e2
    rw [hb] at e3 e4
    split at e1
    · cases e1
    · rename_i a1
      split at e2
      · cases e2
      · rename_i a2
        rw [if_neg a1] at e3
        rw [if_neg a2] at e4
        exact s.fr q r f1 f2 h1 h2 c1 c2 c3 c4 hq hr e1 e2 e3 e4
  · rw [ha] at e1
    rw [hb] at e2
    split at e1
    · cases e1
    · rename_i a1
      rw [if_neg a1] at e2
      exact s.wd q f1 c1 h1 c2 hq e1 e2 k

/-! A word is written. -/
theorem Tri.put (t : Tri A) {q f k : Nat} {b : Bool} {v : Int} (hq : q < 64) (e : A.pg g q = some (f, b)) (h0 : A'.n = A.n) (h1 : A'.pg = A.pg) (h2 : A'.has = A.has) (h3 : A'.rt = A.rt) (h4 : ∀ f' k', A'.wd f' k' = if f' = f ∧ k' = k then v else A.wd f' k') : Tri A' ∧ Quiet A A' g := by
  refine ⟨t.same h0 h1 h2, ⟨fun _ _ _ => by rw [h1], fun _ _ => by rw [h3], fun g' p f' b' k' hg hp e' => ?_⟩⟩
  rw [h4, if_neg]
  rintro ⟨rfl, _⟩
  exact hg (t.sep g' g p q f' b' b hp hq e' e)

theorem Sim.put (s : Sim A B g) {q f h k : Nat} {b b' : Bool} {v : Int} (hq : q < 64) (e : A.pg g q = some (f, b)) (e' : B.pg g q = some (h, b')) (h1 : A'.pg = A.pg) (h3 : A'.rt = A.rt) (h4 : ∀ f' k', A'.wd f' k' = if f' = f ∧ k' = k then v else A.wd f' k') (h5 : B'.pg = B.pg) (h6 : B'.rt = B.rt) (h7 : ∀ f' k', B'.wd f' k' = if f' = h ∧ k' = k then v else B.wd f' k') : Sim A' B' g := by
  refine ⟨by rw [h1, h5]; exact s.sh, by rw [h1, h5]; exact s.fr, fun p f1 c1 g1 c2 hp e1 e2 k' => ?_, by rw [h3, h6]; exact s.rt⟩
  rw [h1] at e1
  rw [h5] at e2
  rw [h4, h7]
  have hiff := s.fr p q f1 f g1 h c1 b c2 b' hp hq e1 e e2 e'
  by_cases x : f1 = f ∧ k' = k
  · rw [if_pos x, if_pos ⟨hiff.1 x.1, x.2⟩]
  · rw [if_neg x, if_neg (fun y => x ⟨hiff.2 y.1, y.2⟩)]
    exact s.wd p f1 c1 g1 c2 hp e1 e2 k'

/-! Share, within a guest. -/
theorem Tri.shared (t : Tri A) {p q f : Nat} {b b' : Bool} (hp : p < 64) (hq : q < 16) (e : A.pg g p = some (f, b')) : Tri (A.shared g q f b) ∧ Quiet A (A.shared g q f b) g := by
  have hpg : ∀ g' p', (A.shared g q f b).pg g' p' = if g' = g ∧ p' = q then some (f, b) else A.pg g' p' := fun _ _ => rfl
  refine ⟨⟨t.n, t.has, fun g' p' h1 h2 => ?_, fun g1 g2 p1 p2 f' b1 b2 h1 h2 e1 e2 => ?_⟩, ⟨fun g' p' hg => ?_, fun _ _ => rfl, fun _ _ _ _ _ _ _ _ => rfl⟩⟩
  · rw [hpg, if_neg (by omega)]
    exact t.lo g' p' h1 h2
  · have key : ∀ g1 p1 b1, p1 < 64 → (if g1 = g ∧ p1 = q then some (f, b) else A.pg g1 p1) = some (f', b1) → ∃ p2 b2, p2 < 64 ∧ A.pg g1 p2 = some (f', b2) := fun g1 p1 b1 h1 e1 => by
      by_cases a1 : g1 = g ∧ p1 = q
      · rw [if_pos a1] at e1
        injection e1 with e1; injection e1 with e1 _
        exact ⟨p, b', hp, by rw [a1.1, e, e1]⟩
      · rw [if_neg a1] at e1
        exact ⟨p1, b1, h1, e1⟩
    rw [hpg] at e1 e2
    obtain ⟨q1, c1, r1, e1⟩ := key g1 p1 b1 h1 e1
    obtain ⟨q2, c2, r2, e2⟩ := key g2 p2 b2 h2 e2
    exact t.sep g1 g2 q1 q2 f' c1 c2 r1 r2 e1 e2
  · rw [hpg, if_neg (fun e => hg e.1)]

theorem Sim.shared (s : Sim A B g) {p q f h : Nat} {b c c' : Bool} (hp : p < 64) (e : A.pg g p = some (f, c)) (e' : B.pg g p = some (h, c')) : Sim (A.shared g q f b) (B.shared g q h b) g := by
  have ha : ∀ p', (A.shared g q f b).pg g p' = if p' = q then some (f, b) else A.pg g p' := fun p' => by
    show (if g = g ∧ p' = q then some (f, b) else A.pg g p') = _
    simp only [true_and]
  have hb : ∀ p', (B.shared g q h b).pg g p' = if p' = q then some (h, b) else B.pg g p' := fun p' => by
    show (if g = g ∧ p' = q then some (h, b) else B.pg g p') = _
    simp only [true_and]
  -- a place of the new state is a place of the old one
  have key : ∀ r f1 h1 c1 c2, r < 64 → (if r = q then some (f, b) else A.pg g r) = some (f1, c1) → (if r = q then some (h, b) else B.pg g r) = some (h1, c2) → ∃ r' d1 d2, r' < 64 ∧ A.pg g r' = some (f1, d1) ∧ B.pg g r' = some (h1, d2) := fun r f1 h1 c1 c2 hr e1 e2 => by
    by_cases a1 : r = q
    · rw [if_pos a1] at e1 e2
      injection e1 with e1; injection e1 with e1 _
      injection e2 with e2; injection e2 with e2 _
      exact ⟨p, c, c', hp, by rw [e, e1], by rw [e', e2]⟩
    · rw [if_neg a1] at e1 e2
      exact ⟨r, c1, c2, hr, e1, e2⟩
  refine ⟨fun r hr => ?_, fun q1 r1 f1 f2 h1 h2 c1 c2 c3 c4 hq hr e1 e2 e3 e4 => ?_, fun q1 f1 c1 h1 c2 hq e1 e2 k => ?_, s.rt⟩
  · rw [ha, hb]
    by_cases x : r = q
    · rw [if_pos x, if_pos x]; rfl
    · rw [if_neg x, if_neg x]; exact s.sh r hr
  · rw [ha] at e1 e2
    rw [hb] at e3 e4
    obtain ⟨r', d1, d2, u1, u2, u3⟩ := key q1 f1 h1 c1 c3 hq e1 e3
    obtain ⟨r'', d3, d4, v1, v2, v3⟩ := key r1 f2 h2 c2 c4 hr e2 e4
    exact s.fr r' r'' f1 f2 h1 h2 d1 d3 d2 d4 u1 v1 u2 v2 u3 v3
  · rw [ha] at e1
    rw [hb] at e2
    obtain ⟨r', d1, d2, u1, u2, u3⟩ := key q1 f1 h1 c1 c2 hq e1 e2
    exact s.wd r' f1 d1 h1 d2 u1 u2 u3 k

/-! Root. -/
theorem Sim.rooted (s : Sim A B g) (p : Int) : Sim (A.rooted g p) (B.rooted g p) g := by
  refine ⟨s.sh, s.fr, s.wd, ?_⟩
  show (if g = g then p else A.rt g) = (if g = g then p else B.rt g)
  rw [if_pos rfl, if_pos rfl]
theorem Quiet.rooted (A : Abs) (g p : Int) : Quiet A (A.rooted g p) g := ⟨fun _ _ _ => rfl, fun g' hg => by show (if g' = g then p else A.rt g') = _; rw [if_neg hg], fun _ _ _ _ _ _ _ _ => rfl⟩

/-! What is turned. -/
theorem Sim.lev (s : Sim A B g) (p : Nat) (st : Bool) : ∀ n q, q < 64 → (A.lev g p st n q).2 = (B.lev g p st n q).2 ∧ ((A.lev g p st n q).2.1 = 0 → ∃ r b b', r < 64 ∧ A.pg g r = some ((A.lev g p st n q).1, b) ∧ B.pg g r = some ((B.lev g p st n q).1, b'))
  | 0, q, hq => by
    rcases s.pair hq with ⟨e1, e2⟩ | ⟨f, h, b, e1, e2⟩
    · rw [Abs.lev, Abs.lev, e1, e2]
      exact ⟨rfl, fun x => absurd x (show ¬ ((3 : Int) = 0) by decide)⟩
    · rw [Abs.lev, Abs.lev, e1, e2]
      simp only []
      by_cases x : (st && !b) = true
      · rw [if_pos x, if_pos x]
        exact ⟨rfl, fun x => absurd x (show ¬ ((4 : Int) = 0) by decide)⟩
      · rw [if_neg x, if_neg x]
        exact ⟨rfl, fun _ => ⟨q, b, b, hq, e1, e2⟩⟩
  | n + 1, q, hq => by
    rcases s.pair hq with ⟨e1, e2⟩ | ⟨f, h, b, e1, e2⟩
    · have eA : A.lev g p st (n + 1) q = (0, 3, (2 : Int) - n) := by rw [Abs.lev, e1]
      have eB : B.lev g p st (n + 1) q = (0, 3, (2 : Int) - n) := by rw [Abs.lev, e2]
      rw [eA, eB]
      exact ⟨rfl, fun x => absurd x (show ¬ ((3 : Int) = 0) by decide)⟩
    · have hw := s.wd q f b h b hq e1 e2 (idx (2 - n) p)
      have eA : A.lev g p st (n + 1) q = if pres (A.wd f (idx (2 - n) p)) then (if st && !wrib (A.wd f (idx (2 - n) p)) then (0, 2, (2 : Int) - n) else A.lev g p st n (numb (A.wd f (idx (2 - n) p)))) else (0, 1, (2 : Int) - n) := by rw [Abs.lev, e1]
      have eB : B.lev g p st (n + 1) q = if pres (A.wd f (idx (2 - n) p)) then (if st && !wrib (A.wd f (idx (2 - n) p)) then (0, 2, (2 : Int) - n) else B.lev g p st n (numb (A.wd f (idx (2 - n) p)))) else (0, 1, (2 : Int) - n) := by rw [Abs.lev, e2]; simp only [← hw]
      have ih := s.lev p st n (numb (A.wd f (idx (2 - n) p))) (by have := numb_lt (A.wd f (idx (2 - n) p)); omega)
      rw [eA, eB]
      generalize A.wd f (idx (2 - n) p) = y at *
      by_cases x1 : pres y = true
      · rw [if_pos x1, if_pos x1]
        by_cases x2 : (st && !wrib y) = true
        · rw [if_pos x2, if_pos x2]
          exact ⟨rfl, fun x => absurd x (show ¬ ((2 : Int) = 0) by decide)⟩
        · rw [if_neg x2, if_neg x2]
          exact ih
      · rw [if_neg x1, if_neg x1]
        exact ⟨rfl, fun x => absurd x (show ¬ ((1 : Int) = 0) by decide)⟩

theorem Sim.turned (s : Sim A B g) {p : Nat} (hp : p < 64) (st : Bool) (hr : A.rt g < 64) : (A.turned g p st).2 = (B.turned g p st).2 ∧ ((A.turned g p st).2.1 = 0 → ∃ r b b', r < 64 ∧ A.pg g r = some ((A.turned g p st).1, b) ∧ B.pg g r = some ((B.turned g p st).1, b')) := by
  rw [Abs.turned, Abs.turned, ← s.rt]
  split
  · exact s.lev p st 0 p hp
  · exact s.lev p st 2 _ (by omega)
end
end Go.Proofs.Ytfcepnhknmbaaaa
