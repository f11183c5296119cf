/- A picture taken in: what is behind a Restore, plainly. -/
import Derived.Test.YtfcepnhknmbaaaaGreatSaveM
namespace Go.Proofs.YtfcepnhknmbaaaaGreat
open Go.RowKit Go.Deep

section
variable {A A' B B' : Abs}

/-- A picture has been taken in as guest g. -/
structure Taken (P : Pic) (A B : Abs) (g : Int) (k : Nat) : Prop where
  n : B.n = A.n
  has : B.has = A.has
  rt : B.rt = A.rt
  kn : B.kn = A.kn
  mine : ∀ p, p < 64 → (B.pg g p = none ∧ (k ≤ p ∨ P.pr p = false)) ∨ (p < k ∧ P.pr p = true ∧ ∃ f, B.pg g p = some (f, P.wr p) ∧ ∀ i, B.wd f i = P.wd p i)
  oth : ∀ g' p, g' ≠ g → B.pg g' p = A.pg g' p
  ow : ∀ g' p f b i, g' ≠ g → p < 64 → A.pg g' p = some (f, b) → B.wd f i = A.wd f i
  sep : ∀ g' p q f b b', g' ≠ g → p < 64 → q < 64 → B.pg g p = some (f, b) → A.pg g' q ≠ some (f, b')

theorem Adm.taken {P : Pic} {g : Int} (h0 : ∀ p, p < 64 → A.pg g p = none) : ∀ {k : Nat} {B : Abs}, k ≤ 64 → Adm P A g k B → Taken P A B g k
  | 0, B, _, h => by
    have h : B = A := h
    subst h
    exact ⟨rfl, rfl, rfl, rfl, fun p hp => Or.inl ⟨h0 p hp, Or.inl (Nat.zero_le _)⟩, fun _ _ _ => rfl, fun _ _ _ _ _ _ _ _ => rfl, fun g' p q f b b' _ hp _ e => by rw [h0 p hp] at e; cases e⟩
  | k + 1, B, hk, h => by
    obtain ⟨C, hC, h1, h2⟩ := h
    have ih := Adm.taken h0 (by omega) hC
    cases hp : P.pr k with
    | false =>
      have e := h2 hp
      subst e
      refine ⟨ih.n, ih.has, ih.rt, ih.kn, fun p hp64 => ?_, ih.oth, ih.ow, ih.sep⟩
      rcases ih.mine p hp64 with ⟨q1, q2⟩ | ⟨q1, q2⟩
      · refine Or.inl ⟨q1, ?_⟩
        rcases q2 with q2 | q2
        · by_cases e : p = k
          · exact Or.inr (by rw [e]; exact hp)
          · exact Or.inl (by omega)
        · exact Or.inr q2
      · exact Or.inr ⟨by omega, q2⟩
    | true =>
      obtain ⟨f, hn, e⟩ := h1 hp
      subst e
      have hpg : ∀ g' p', (C.filled g k f (P.wr k) (P.wd k)).pg g' p' = if g' = g ∧ p' = k then some (f, P.wr k) else C.pg g' p' := fun _ _ => rfl
      have hwd : ∀ f' i, (C.filled g k f (P.wr k) (P.wd k)).wd f' i = if f' = f then P.wd k i else C.wd f' i := fun _ _ => rfl
      refine ⟨ih.n, ih.has, ih.rt, ih.kn, fun p hp64 => ?_, fun g' p hg => ?_, fun g' p f' b i hg hp64 e => ?_, fun g' p q f' b b' hg hp64 hq e => ?_⟩
      · by_cases e : p = k
        · subst e
          exact Or.inr ⟨by omega, hp, f, by rw [hpg, if_pos ⟨rfl, rfl⟩], fun i => by rw [hwd, if_pos rfl]⟩
        · rw [hpg, if_neg (fun q => e q.2)]
          rcases ih.mine p hp64 with ⟨q1, q2⟩ | ⟨q1, q2, f', q3, q4⟩
          · exact Or.inl ⟨q1, q2.imp (fun q => by omega) id⟩
          · refine Or.inr ⟨by omega, q2, f', q3, fun i => ?_⟩
            rw [hwd, if_neg (fun q => hn.2 g p (P.wr p) hp64 (by rw [← q]; exact q3))]
            exact q4 i
      · rw [hpg, if_neg (fun q => hg q.1)]
        exact ih.oth g' p hg
      · rw [hwd, if_neg (fun q => hn.2 g' p b hp64 (by rw [ih.oth g' p hg, ← q]; exact e))]
        exact ih.ow g' p f' b i hg hp64 e
      · rw [hpg] at e
        by_cases a : g = g ∧ p = k
        · rw [if_pos a] at e
          have e := congrArg Prod.fst (Option.some.inj e)
          have e : f = f' := e
          rw [← e, ← ih.oth g' q hg]
          exact hn.2 g' q b' hq
        · rw [if_neg a] at e
          exact ih.sep g' p q f' b b' hg hp64 hq e

theorem Pic.Same.symm {P Q : Pic} (h : P.Same Q) : Q.Same P := ⟨h.root.symm, fun p hp => (h.pr p hp).symm, fun p hp => (h.wr p hp).symm, fun p k hp hk => (h.wd p k hp hk).symm⟩
theorem Pic.Same.trans {P Q R : Pic} (h : P.Same Q) (k : Q.Same R) : P.Same R := ⟨h.root.trans k.root, fun p hp => (h.pr p hp).trans (k.pr p hp), fun p hp => (h.wr p hp).trans (k.wr p hp), fun p i hp hi => (h.wd p i hp hi).trans (k.wd p i hp hi)⟩

/-- What is behind a Restore: the new guest is as the picture; others are as they were. -/
theorem Admits.sees {P : Pic} (hP : ∀ p, p < 64 → P.pr p = false → P.wr p = false ∧ ∀ k, k < 8 → P.wd p k = 0) (h0 : ∀ p, p < 64 → A.pg ((A.last : Int) + 1) p = none) (h : A.Admits P A') (hc : A.admitCode P = 0) :
    (A'.pic ((A.last : Int) + 1)).Same P ∧ A'.has ((A.last : Int) + 1) = true ∧ A'.kn = A.kn ∧
    (∀ g, g ≠ (A.last : Int) + 1 → (A'.pic g).Same (A.pic g) ∧ A'.has g = A.has g) ∧
    (∀ g p q f b b', g ≠ (A.last : Int) + 1 → p < 64 → q < 64 → A'.pg ((A.last : Int) + 1) p = some (f, b) → A'.pg g q ≠ some (f, b')) := by
  obtain ⟨B, hB, rfl⟩ := h.1 hc
  have t := Adm.taken (A := A.created) (fun p hp => h0 p hp) (Nat.le_refl 64) hB
  have hr : ∀ g, (B.rooted ((A.last : Int) + 1) P.root).rt g = if g = (A.last : Int) + 1 then P.root else B.rt g := fun _ => rfl
  refine ⟨⟨?_, fun p hp => ?_, fun p hp => ?_, fun p k hp hk => ?_⟩, ?_, t.kn, fun g hg => ⟨⟨?_, fun p hp => ?_, fun p hp => ?_, fun p k hp hk => ?_⟩, ?_⟩, fun g p q f b b' hg hp hq e => ?_⟩
  · show (B.rooted ((A.last : Int) + 1) P.root).rt ((A.last : Int) + 1) = P.root
    rw [hr, if_pos rfl]
  · show (B.pg ((A.last : Int) + 1) p).isSome = P.pr p
    rcases t.mine p hp with ⟨q1, q2⟩ | ⟨q1, q2, f, q3, q4⟩
    · rw [q1, q2.resolve_left (by omega)]; rfl
    · rw [q3, q2]; rfl
  · show (match B.pg ((A.last : Int) + 1) p with | .some (_, b) => b | .none => false) = P.wr p
    rcases t.mine p hp with ⟨q1, q2⟩ | ⟨q1, q2, f, q3, q4⟩
    · rw [q1, (hP p hp (q2.resolve_left (by omega))).1]
    · rw [q3]
  · show (match B.pg ((A.last : Int) + 1) p with | .some (f, _) => B.wd f k | .none => 0) = P.wd p k
    rcases t.mine p hp with ⟨q1, q2⟩ | ⟨q1, q2, f, q3, q4⟩
    · rw [q1, (hP p hp (q2.resolve_left (by omega))).2 k hk]
    · rw [q3]; exact q4 k
  · show B.has ((A.last : Int) + 1) = true
    rw [t.has]
    show (if (A.last : Int) + 1 = (A.last : Int) + 1 then true else A.has _) = true
    rw [if_pos rfl]
  · show (B.rooted ((A.last : Int) + 1) P.root).rt g = A.rt g
    rw [hr, if_neg hg, t.rt]
    show (if g = (A.last : Int) + 1 then -1 else A.rt g) = A.rt g
    rw [if_neg hg]
  · show (B.pg g p).isSome = (A.pg g p).isSome
    rw [t.oth g p hg]; rfl
  · show (match B.pg g p with | .some (_, b) => b | .none => false) = (match A.pg g p with | .some (_, b) => b | .none => false)
    rw [t.oth g p hg]; rfl
  · show (match B.pg g p with | .some (f, _) => B.wd f k | .none => 0) = (match A.pg g p with | .some (f, _) => A.wd f k | .none => 0)
    rw [t.oth g p hg]
    show (match A.pg g p with | .some (f, _) => B.wd f k | .none => 0) = (match A.pg g p with | .some (f, _) => A.wd f k | .none => 0)
    cases e : A.pg g p with
    | none => rfl
    | some y => exact t.ow g p y.1 y.2 k hg hp e
  · show B.has g = A.has g
    rw [t.has]
    show (if g = (A.last : Int) + 1 then true else A.has g) = A.has g
    rw [if_neg hg]
  · have e : B.pg ((A.last : Int) + 1) p = some (f, b) := e
    show B.pg g q ≠ some (f, b')
    rw [t.oth g q hg]
    exact t.sep g p q f b b' hg hp hq e
end
end Go.Proofs.YtfcepnhknmbaaaaGreat
