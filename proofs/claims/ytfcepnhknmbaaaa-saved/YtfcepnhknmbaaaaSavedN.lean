/- The law Apart: done, of any kind. -/
import Derived.Test.YtfcepnhknmbaaaaApartWalkM
import Derived.Test.YtfcepnhknmbaaaaApartWalkD
import Derived.Test.YtfcepnhknmbaaaaApartFree
import Derived.Test.YtfcepnhknmbaaaaSees
namespace Go.Proofs.Ytfcepnhknmbaaaa
open Go.RowKit Go.Deep

theorem done_any (w : World) (mb : Nat) (own : Nat → Prop) (A : Abs) (h : Rep w mb own A) (k gg a b g : Int) (W : Bool) (ha : In64 a) (hb : In64 b) (hg : In64 g) (hk : A.kn + 3 < maxLen) :
    Calls Try.prog 19 #[pt mb, stV k gg a b W, .int .i64 g] w (DonePost w mb own A (asks k a b W) g) := by
  by_cases h1 : k = 1
  · subst h1; exact done1_any w mb own A h gg a b g W ha hg (by omega)
  by_cases h2 : k = 2
  · subst h2; exact done2_any w mb own A h gg a b g W ha hg (by omega)
  by_cases h3 : k = 3
  · subst h3; exact done3_any w mb own A h gg a b g W ha hb hg (by omega)
  by_cases h4 : k = 4
  · subst h4; exact done4_any w mb own A h gg a b g W ha hb hg hk
  by_cases h5 : k = 5
  · subst h5; exact done5_any w mb own A h gg a b g W ha hg
  by_cases h6 : k = 6
  · subst h6; exact done6_any w mb own A h gg a b g W ha hg hk
  by_cases h7 : k = 7
  · subst h7; exact done7_any w mb own A h gg a b g W ha hg (by omega)
  exact done8_any w mb own A h gg a b g W k (by omega) ha hb hg hk

/-- A machine in order, with what it owns. -/
structure Guests (w : World) (mb : Nat) (own : Nat → Prop) (A : Abs) (n : Nat) : Prop where
  rep : Rep w mb own A
  tri : Tri A
  kn : A.kn ≤ n

/-- The two machines of the law. -/
structure Both (w0 w : World) (ma mo : Nat) (n : Nat) (g : Int) : Prop where
  of : ∃ ownA ownO A O, Guests w ma ownA A n ∧ Guests w mo ownO O n ∧ (∀ b, ownA b → ¬ ownO b) ∧ (∀ b, ownA b → w0.heap.size ≤ b) ∧ (∀ b, ownO b → w0.heap.size ≤ b) ∧ Sim A O g
  b : Only Nob w0 w

/-- A step of the first machine alone, of another guest. -/
theorem Both.other {w0 w : World} {ma mo n : Nat} {g : Int} (h : Both w0 w ma mo n g) (k gg a b g' : Int) (W : Bool) (ha : In64 a) (hb : In64 b) (hg : In64 g') (hk : n + 3 < maxLen) (hne : g ≠ g') :
    Calls Try.prog 19 #[pt ma, stV k gg a b W, .int .i64 g'] w fun e w' => ∃ x y z, e = .returned (.tuple #[.int .i64 x, .int .i64 y, .int .i64 z]) ∧ Both w0 w' ma mo (n + 3) g := by
  obtain ⟨⟨ownA, ownO, A, O, hA, hO, hd, hoA, hoO, hs⟩, hb0⟩ := h
  have := hA.kn
  refine (done_any w ma ownA A hA.rep k gg a b g' W ha hb hg (by omega)).mono ?_
  rintro e w' ⟨own', A', x, y, z, rfl, q1, q2, q3⟩
  obtain ⟨t1, t2, t3⟩ := q3.tri hA.tri (asks_ok k a b W)
  have hsz : w0.heap.size ≤ w.heap.size := hb0.size
  refine ⟨x, y, z, rfl, ⟨⟨own', ownO, A', O, ⟨q1, t1, by omega⟩, ⟨hO.rep.only q2.only (fun b hb q => hd b q hb), hO.tri, by have := hO.kn; omega⟩, fun b hb q => ?_, fun b hb => ?_, hoO, hs.quiet t2 hne⟩, ?_⟩⟩
  · rcases q2.ext b hb with r | r
    · exact hd b r q
    · have := hO.rep.own_lt q
      omega
  · rcases q2.ext b hb with r | r
    · exact hoA b r
    · omega
  · exact hb0.after q2.only (fun b hb q => absurd (hoA b q) (by omega))

/-- The same step in both. -/
theorem Both.first {w0 w : World} {ma mo n : Nat} {g : Int} (h : Both w0 w ma mo n g) (k gg a b : Int) (W : Bool) (ha : In64 a) (hb : In64 b) (hg : In64 g) (hg1 : 1 ≤ g) (hg3 : g ≤ 3) (hk : n + 3 < maxLen) :
    Calls Try.prog 19 #[pt ma, stV k gg a b W, .int .i64 g] w fun e w1 => ∃ x y z, e = .returned (.tuple #[.int .i64 x, .int .i64 y, .int .i64 z]) ∧ Only Nob w0 w1 ∧
      ∀ w2, Only Nob w1 w2 → Calls Try.prog 19 #[pt mo, stV k gg a b W, .int .i64 g] w2 fun e w' => e = .returned (.tuple #[.int .i64 x, .int .i64 y, .int .i64 z]) ∧ Both w0 w' ma mo (n + 3) g := by
  obtain ⟨⟨ownA, ownO, A, O, hA, hO, hd, hoA, hoO, hs⟩, hb0⟩ := h
  have hkA := hA.kn
  have hkO := hO.kn
  have hsz : w0.heap.size ≤ w.heap.size := hb0.size
  refine (done_any w ma ownA A hA.rep k gg a b g W ha hb hg (by omega)).mono ?_
  rintro e w1 ⟨own', A', x, y, z, rfl, q1, q2, q3⟩
  obtain ⟨t1, t2, t3⟩ := q3.tri hA.tri (asks_ok k a b W)
  have hb1 : Only Nob w0 w1 := hb0.after q2.only (fun b hb q => absurd (hoA b q) (by omega))
  refine ⟨x, y, z, rfl, hb1, fun w2 o2 => ?_⟩
  have hO1 : Rep w2 mo ownO O := (hO.rep.only q2.only (fun b hb q => hd b q hb)).nob o2
  refine (done_any w2 mo ownO O hO1 k gg a b g W ha hb hg (by omega)).mono ?_
  rintro e w' ⟨ownO', O', x', y', z', rfl, r1, r2, r3⟩
  obtain ⟨s1, s2, s3⟩ := r3.tri hO.tri (asks_ok k a b W)
  have fA := hA.tri.free hA.rep
  have fO := hO.tri.free hO.rep
  obtain ⟨rfl, rfl, rfl, hs'⟩ := q3.sim r3 hs hA.tri hO.tri (by omega) (by omega) (hA.rep.rt_lt hA.tri hg1 hg3) (asks_ok k a b W)
  have hA2 : Rep w2 ma own' A' := q1.nob o2
  have d1 : ∀ b, own' b → ¬ ownO b := fun b hb q => by
    rcases q2.ext b hb with r | r
    · exact hd b r q
    · have := hO.rep.own_lt q
      omega
  have d2 : ∀ b, own' b → ¬ ownO' b := fun b hb q => by
    rcases r2.ext b q with r | r
    · exact d1 b hb r
    · have := hA2.own_lt hb
      omega
  have hsz1 : w.heap.size ≤ w1.heap.size := q2.only.size
  have hsz2 : w1.heap.size ≤ w2.heap.size := o2.size
  refine ⟨rfl, ⟨⟨own', ownO', A', O', ⟨hA2.only r2.only (fun b hb q => d1 b hb q), t1, by omega⟩, ⟨r1, s1, by omega⟩, d2, fun b hb => ?_, fun b hb => ?_, hs'⟩, ?_⟩⟩
  · rcases q2.ext b hb with r | r
    · exact hoA b r
    · omega
  · rcases r2.ext b hb with r | r
    · exact hoO b r
    · omega
  · exact (hb1.trans o2).after r2.only (fun b hb q => absurd (hoO b q) (by omega))

/-- A word read in both. -/
theorem Both.read {w0 w : World} {ma mo n : Nat} {g : Int} (h : Both w0 w ma mo n g) (a : Int) (ha : a < 512) (hg : In64 g) (hk : n + 3 < maxLen) :
    Calls Try.prog 18 #[pt ma, .int .i64 g, .int .i64 a] w fun e w1 => ∃ x z, e = .returned (.tuple #[.int .i64 x, .int .i64 z]) ∧
      ∀ w2, Only Nob w1 w2 → Calls Try.prog 18 #[pt mo, .int .i64 g, .int .i64 a] w2 fun e w' => e = .returned (.tuple #[.int .i64 x, .int .i64 z]) ∧ Both w0 w' ma mo (n + 3) g := by
  obtain ⟨⟨ownA, ownO, A, O, hA, hO, hd, hoA, hoO, hs⟩, hb0⟩ := h
  have hkA := hA.kn
  have hkO := hO.kn
  have hsz : w0.heap.size ≤ w.heap.size := hb0.size
  refine (absRead hA.rep g a hg (by omega)).mono ?_
  rintro e w1 ⟨own', A', rfl, q1, q2, q3⟩
  obtain ⟨t1, _, t3⟩ := hA.tri.ticks (g := g) q3
  have hb1 : Only Nob w0 w1 := hb0.after q2.only (fun b hb q => absurd (hoA b q) (by omega))
  refine ⟨_, _, rfl, fun w2 o2 => ?_⟩
  have hO1 : Rep w2 mo ownO O := (hO.rep.only q2.only (fun b hb q => hd b q hb)).nob o2
  refine (absRead hO1 g a hg (by omega)).mono ?_
  rintro e w' ⟨ownO', O', rfl, r1, r2, r3⟩
  obtain ⟨s1, _, s3⟩ := hO.tri.ticks (g := g) r3
  have hA2 : Rep w2 ma own' A' := q1.nob o2
  have d1 : ∀ b, own' b → ¬ ownO b := fun b hb q => by
    rcases q2.ext b hb with r | r
    · exact hd b r q
    · have := hO.rep.own_lt q
      omega
  have d2 : ∀ b, own' b → ¬ ownO' b := fun b hb q => by
    rcases r2.ext b q with r | r
    · exact d1 b hb r
    · have := hA2.own_lt hb
      omega
  have hsz1 : w.heap.size ≤ w1.heap.size := q2.only.size
  have hsz2 : w1.heap.size ≤ w2.heap.size := o2.size
  refine ⟨by rw [hs.readAt hA.tri hO.tri ha], ⟨⟨own', ownO', A', O', ⟨hA2.only r2.only (fun b hb q => d1 b hb q), t1, by omega⟩, ⟨r1, s1, by omega⟩, d2, fun b hb => ?_, fun b hb => ?_, hs.ticks q3 r3⟩, ?_⟩⟩
  · rcases q2.ext b hb with r | r
    · exact hoA b r
    · omega
  · rcases r2.ext b hb with r | r
    · exact hoO b r
    · omega
  · exact (hb1.trans o2).after r2.only (fun b hb q => absurd (hoO b q) (by omega))

/-- The beginning. -/
theorem Both.start {w w1 w2 : World} {ma mo : Nat} {A O : Abs} (h1 : Run w w1 ma A) (i1 : Init A 64 3) (h2 : Run w1 w2 mo O) (i2 : Init O 64 3) (g : Int) : Both w w2 ma mo 10 g := by
  obtain ⟨ownA, a1, a2, a3⟩ := h1
  obtain ⟨ownO, b1, b2, b3⟩ := h2
  have hsz : w.heap.size ≤ w1.heap.size := a2.size
  refine ⟨⟨ownA, ownO, A, O, ⟨a1.nob b2, i1.tri, i1.kn⟩, ⟨b1, i2.tri, i2.kn⟩, fun b hb q => ?_, a3, fun b hb => ?_, i1.sim i2 g⟩, a2.trans b2⟩
  · have := b3 b q
    have := a1.own_lt hb
    omega
  · have := b3 b hb
    omega
theorem Both.nob {w0 w w' : World} {ma mo n : Nat} {g : Int} (h : Both w0 w ma mo n g) (o : Only Nob w w') : Both w0 w' ma mo n g := by
  obtain ⟨⟨ownA, ownO, A, O, hA, hO, hd, hoA, hoO, hs⟩, hb0⟩ := h
  exact ⟨⟨ownA, ownO, A, O, ⟨hA.rep.nob o, hA.tri, hA.kn⟩, ⟨hO.rep.nob o, hO.tri, hO.kn⟩, hd, hoA, hoO, hs⟩, hb0.trans o⟩
theorem Both.mono {w0 w : World} {ma mo n n' : Nat} {g : Int} (h : Both w0 w ma mo n g) (hn : n ≤ n') : Both w0 w ma mo n' g := by
  obtain ⟨⟨ownA, ownO, A, O, hA, hO, hd, hoA, hoO, hs⟩, hb0⟩ := h
  exact ⟨⟨ownA, ownO, A, O, ⟨hA.rep, hA.tri, Nat.le_trans hA.kn hn⟩, ⟨hO.rep, hO.tri, Nat.le_trans hO.kn hn⟩, hd, hoA, hoO, hs⟩, hb0⟩
end Go.Proofs.Ytfcepnhknmbaaaa

/- The law Saved, plainly: a guest alone ('Solo'), a picture taken in ('Taken'), two guests that read alike. -/
namespace Go.Proofs.Ytfcepnhknmbaaaa
open Go.RowKit Go.Deep

/-- One guest, with pages below 16. -/
structure Solo (A : Abs) : Prop where
  n : A.n = 64
  cnt : A.cnt = 1
  last : A.last = 1
  has : ∀ g : Int, A.has g = decide (g = 1)
  lo : ∀ p, 16 ≤ p → p < 64 → A.pg 1 p = none

section
variable {A A' B B' : Abs} {s : Asks} {x y z : Int} {w : World} {mb : Nat} {own : Nat → Prop}

theorem Solo.same (t : Solo A) (h0 : A'.n = A.n) (h1 : A'.cnt = A.cnt) (h2 : A'.last = A.last) (h3 : A'.has = A.has) (h4 : ∀ p, 16 ≤ p → A'.pg 1 p = A.pg 1 p) : Solo A' :=
  ⟨by rw [h0]; exact t.n, by rw [h1]; exact t.cnt, by rw [h2]; exact t.last, by rw [h3]; exact t.has, fun p hp hq => by rw [h4 p hp]; exact t.lo p hp hq⟩

theorem Solo.ticks (t : Solo A) (h : A' = A ∨ A' = A.tick) : Solo A' ∧ A'.kn ≤ A.kn + 3 := by
  rcases h with rfl | rfl
  · exact ⟨t, by omega⟩
  · exact ⟨t.same rfl rfl rfl rfl (fun _ _ => rfl), by show A.kn + 1 ≤ A.kn + 3; omega⟩

theorem Did.solo (d : Did A s 1 x y z A') (t : Solo A) (ok : s.ok) : Solo A' ∧ A'.kn ≤ A.kn + 3 := by
  have o1 := ok.p0
  have o2 := ok.p1
  have o3 := ok.q0
  have o4 := ok.q1
  rcases d with ⟨_, _, _, _, h1, h2⟩ | ⟨_, _, _, _, h1, h2⟩ | ⟨_, _, _, _, h1, h2⟩ | ⟨_, _, _, _, h1, h2⟩ | ⟨_, _, _, _, h1, h2⟩ | ⟨_, _, _, _, rfl⟩ | ⟨_, _, _, _, h⟩ | ⟨_, _, _, _, h1, h2⟩
  · by_cases hz : z = 0
    · obtain ⟨f, hn, rfl⟩ := h1 hz
      refine ⟨t.same rfl rfl rfl rfl (fun p hp => ?_), by show A.kn + 1 ≤ A.kn + 3; omega⟩
      show (if (1 : Int) = 1 ∧ p = s.pg.toNat then some (f, s.W) else A.pg 1 p) = _
      rw [if_neg (by omega)]
    · exact t.ticks (h2 hz)
  · by_cases hz : z = 0
    · obtain ⟨n, rfl⟩ := h1 hz
      refine ⟨t.same rfl rfl rfl rfl (fun p hp => ?_), by show A.kn + 1 ≤ A.kn + 3; omega⟩
      show (if (1 : Int) = 1 ∧ p = s.pg.toNat then none else A.pg 1 p) = _
      rw [if_neg (by omega)]
    · exact t.ticks (h2 hz)
  · by_cases hz : z = 0
    · obtain ⟨f, c, e, rfl⟩ := h1 hz
      exact ⟨t.same rfl rfl rfl rfl (fun _ _ => rfl), by show A.kn + 1 ≤ A.kn + 3; omega⟩
    · exact t.ticks (h2 hz)
  · cases hz : A.stores 1 s.ad s.v with
    | true =>
      obtain ⟨rfl, q, b, hq, e⟩ := h1 hz
      exact ⟨t.same rfl rfl rfl rfl (fun _ _ => rfl), by show A.kn + 3 ≤ A.kn + 3; omega⟩
    | false =>
      have e := h2 hz
      subst e
      exact ⟨t.same rfl rfl rfl rfl (fun _ _ => rfl), by show A.kn + 3 ≤ A.kn + 3; omega⟩
  · by_cases hz : z = 0
    · have e := h1 hz
      subst e
      exact ⟨t.same rfl rfl rfl rfl (fun _ _ => rfl), by show A.kn ≤ A.kn + 3; omega⟩
    · have e := h2 hz
      subst e
      exact ⟨t, by omega⟩
  · exact ⟨t.same rfl rfl rfl rfl (fun _ _ => rfl), by show A.kn + 3 ≤ A.kn + 3; omega⟩
  · exact t.ticks h
  · by_cases hz : z = 0
    · obtain ⟨f, c, e, rfl⟩ := h1 hz
      refine ⟨t.same rfl rfl rfl rfl (fun p hp => ?_), by show A.kn + 2 ≤ A.kn + 3; omega⟩
      show (if (1 : Int) = 1 ∧ p = s.qg.toNat then some (f, s.W) else A.pg 1 p) = _
      rw [if_neg (by omega)]
    · have e := h2 hz
      subst e
      exact ⟨t.same rfl rfl rfl rfl (fun _ _ => rfl), by show A.kn + 2 ≤ A.kn + 3; omega⟩

theorem Solo.grp (t : Solo A) {k : Nat} (h2 : 2 ≤ k) (h8 : k < 8) : A.grp 1 k = false := by
  cases hk : A.grp 1 k with
  | false => rfl
  | true =>
    rw [Abs.grp, List.any_eq_true] at hk
    obtain ⟨i, hi, e⟩ := hk
    rw [List.mem_range] at hi
    rw [t.lo (8 * k + i) (by omega) (by omega)] at e
    cases e

theorem Solo.free (t : Solo A) (h : Rep w mb own A) : 39 ≤ A.free := by
  obtain ⟨S, H, hM, hI, hS, ho⟩ := h
  obtain ⟨F, f1, f2, f3⟩ := dedup ((List.range 16).filterMap (fun p => (A.pg 1 p).map Prod.fst))
  have hc := count_all hI hS (L := [1]) (by decide) (fun g => by
    rw [t.has, decide_eq_true_eq]
    simp only [List.mem_cons, List.not_mem_nil, or_false]) f1 (fun f => by
    rw [f2]
    constructor
    · intro hq
      obtain ⟨p, hp, e⟩ := List.mem_filterMap.1 hq
      rw [List.mem_range] at hp
      cases hx : A.pg 1 p with
      | none => rw [hx] at e; cases e
      | some y =>
        rw [hx] at e
        injection e with e
        exact ⟨1, p, y.2, by omega, by rw [hx, ← e]⟩
    · rintro ⟨g, p, b, hp, e⟩
      have hg : A.has g = true := by
        obtain ⟨r, hr⟩ := pg_root hS e
        rw [hS.has, hr]; rfl
      rw [t.has, decide_eq_true_eq] at hg
      subst hg
      have h16 : p < 16 := by
        by_cases q : p < 16
        · exact q
        · rw [t.lo p (by omega) hp] at e; cases e
      exact List.mem_filterMap.2 ⟨p, List.mem_range.2 h16, by rw [e]; rfl⟩)
  have h1 : (tabPairs A.grp [1]).length ≤ 8 * 1 := len_few (c := 8) (fun g => Nat.le_trans (List.length_filter_le _ _) (by simp)) [1]
  have h2 : ((List.range 16).filterMap (fun p => (A.pg 1 p).map Prod.fst)).length ≤ 16 := Nat.le_trans (List.length_filterMap_le _ _) (by simp)
  have hn := t.n
  simp only [List.length_cons, List.length_nil] at hc
  omega

/-! Pictures with pages below 16. -/
theorem frames_few {P : Pic} (h : ∀ p, 16 ≤ p → p < 64 → P.pr p = false) : P.frames ≤ 33 := by
  have key : ∀ k, 16 + k ≤ 64 → P.frTo (16 + k) ≤ 33 := fun k => by
    induction k with
    | zero => intro _; exact P.frTo_le 16
    | succ k ih =>
      intro hk
      show P.frTo ((16 + k) + 1) ≤ 33
      rw [Pic.frTo, h (16 + k) (by omega) (by omega)]
      exact ih (by omega)
  exact key 48 (by omega)

/-! Two guests of one picture read alike. -/
structure Alike (A B : Abs) (g h : Int) : Prop where
  ha : A.has g = true
  hb : B.has h = true
  s : (A.pic g).Same (B.pic h)
  r0 : A.rt g < 64

theorem Alike.pair {g h : Int} (m : Alike A B g h) {p : Nat} (hp : p < 64) : (A.pg g p = none ∧ B.pg h p = none) ∨ ∃ f f' b b', A.pg g p = some (f, b) ∧ B.pg h p = some (f', b') ∧ ∀ k, k < 8 → A.wd f k = B.wd f' k := by
  have e : (A.pg g p).isSome = (B.pg h p).isSome := m.s.pr p hp
  have e2 : ∀ k, k < 8 → (match A.pg g p with | .some (f, _) => A.wd f k | .none => 0) = (match B.pg h p with | .some (f, _) => B.wd f k | .none => 0) := fun k hk => m.s.wd p k hp hk
  cases ha : A.pg g p with
  | none =>
    cases hb : B.pg h p with
    | none => exact Or.inl ⟨rfl, rfl⟩
    | some y => rw [ha, hb] at e; cases e
  | some x =>
    cases hb : B.pg h p with
    | none => rw [ha, hb] at e; cases e
    | some y =>
      rw [ha, hb] at e2
      exact Or.inr ⟨x.1, y.1, x.2, y.2, rfl, rfl, e2⟩

theorem Alike.readAt {g h : Int} (m : Alike A B g h) {a : Int} (h1 : a < 512) : A.readAt g a = B.readAt h a := by
  simp only [Abs.readAt, Abs.check, m.ha, m.hb]
  rcases m.pair (p := a.toNat / 8) (by omega) with ⟨e1, e2⟩ | ⟨f, f', b, b', e1, e2, e3⟩
  · rw [e1, e2]
  · rw [e1, e2]
    simp only [e3 (a.toNat % 8) (by omega)]

theorem Alike.lev {g h : Int} (m : Alike A B g h) {p : Nat} (hp : p < 64) : ∀ n q, q < 64 → (A.lev g p false n q).2 = (B.lev h p false n q).2 ∧ ((A.lev g p false n q).2.1 = 0 → ∀ k, k < 8 → A.wd (A.lev g p false n q).1 k = B.wd (B.lev h p false n q).1 k)
  | 0, q, hq => by
    rcases m.pair hq with ⟨e1, e2⟩ | ⟨f, f', b, b', e1, e2, e3⟩
    · have eA : A.lev g p false 0 q = (0, 3, 3) := by rw [Abs.lev, e1]
      have eB : B.lev h p false 0 q = (0, 3, 3) := by rw [Abs.lev, e2]
      rw [eA, eB]
      exact ⟨rfl, fun x => absurd x (show ¬ ((3 : Int) = 0) by decide)⟩
    · have eA : A.lev g p false 0 q = (f, 0, 0) := by rw [Abs.lev, e1]; rfl
      have eB : B.lev h p false 0 q = (f', 0, 0) := by rw [Abs.lev, e2]; rfl
      rw [eA, eB]
      exact ⟨rfl, fun _ => e3⟩
  | n + 1, q, hq => by
    rcases m.pair hq with ⟨e1, e2⟩ | ⟨f, f', b, b', e1, e2, e3⟩
    · have eA : A.lev g p false (n + 1) q = (0, 3, (2 : Int) - n) := by rw [Abs.lev, e1]
      have eB : B.lev h p false (n + 1) q = (0, 3, (2 : Int) - n) := by rw [Abs.lev, e2]
      rw [eA, eB]
      exact ⟨rfl, fun x => absurd x (show ¬ ((3 : Int) = 0) by decide)⟩
    · have hw := e3 (idx (2 - n) p) (idx_lt hp _)
      have eA : A.lev g p false (n + 1) q = if pres (A.wd f (idx (2 - n) p)) then A.lev g p false n (numb (A.wd f (idx (2 - n) p))) else (0, 1, (2 : Int) - n) := by rw [Abs.lev, e1]; simp only [Bool.false_and, Bool.false_eq_true, if_false]
      have eB : B.lev h p false (n + 1) q = if pres (A.wd f (idx (2 - n) p)) then B.lev h p false n (numb (A.wd f (idx (2 - n) p))) else (0, 1, (2 : Int) - n) := by rw [Abs.lev, e2]; simp only [Bool.false_and, Bool.false_eq_true, if_false, ← hw]
      have ih := m.lev hp n (numb (A.wd f (idx (2 - n) p))) (by have := numb_lt (A.wd f (idx (2 - n) p)); omega)
      rw [eA, eB]
      generalize A.wd f (idx (2 - n) p) = y at *
      by_cases x1 : pres y = true
      · rw [if_pos x1, if_pos x1]
        exact ih
      · rw [if_neg x1, if_neg x1]
        exact ⟨rfl, fun x => absurd x (show ¬ ((1 : Int) = 0) by decide)⟩

theorem Alike.loadAt {g h : Int} (m : Alike A B g h) {a : Int} (h1 : a < 512) : A.loadAt g a = B.loadAt h a := by
  have hr : A.rt g = B.rt h := m.s.root
  have hr0 := m.r0
  have hp : a.toNat / 8 < 64 := by omega
  have key : (A.turned g (a.toNat / 8) false).2 = (B.turned h (a.toNat / 8) false).2 ∧ ((A.turned g (a.toNat / 8) false).2.1 = 0 → ∀ k, k < 8 → A.wd (A.turned g (a.toNat / 8) false).1 k = B.wd (B.turned h (a.toNat / 8) false).1 k) := by
    rw [Abs.turned, Abs.turned, ← hr]
    split
    · exact m.lev hp 0 _ hp
    · exact m.lev hp 2 _ (by omega)
  simp only [Abs.loadAt, Abs.check, m.ha, m.hb, ← key.1]
  by_cases hz : (A.turned g (a.toNat / 8) false).2.1 = 0
  · simp only [hz, if_true, key.2 hz (a.toNat % 8) (by omega)]
  · simp only [hz, if_false]
end
end Go.Proofs.Ytfcepnhknmbaaaa

/- The contract of same: two guests that answer alike; two machines side by side. -/
namespace Go.Proofs.Ytfcepnhknmbaaaa
open Go.RowKit Go.Deep

/-- Guest g of a machine answers by R and L, as long as I holds. -/
structure Ans (ma : Nat) (g : Int) (I : (Nat → Prop) → Nat → World → Prop) (N : Nat) (R : Nat → Int × Int) (L : Nat → Int × Int × Int × Int) : Prop where
  rd : ∀ (k : Nat) own n w, k < 512 → n ≤ N → I own n w → Calls Try.prog 18 #[pt ma, .int .i64 g, .int .i64 k] w fun e w' => e = .returned (.tuple #[.int .i64 (R k).1, .int .i64 (R k).2]) ∧ ∃ own', I own' (n + 3) w' ∧ Left w w' own own'
  ld : ∀ (k : Nat) own n w, k < 512 → n ≤ N → I own n w → Calls Try.prog 23 #[pt ma, .int .i64 g, .int .i64 k] w fun e w' => e = .returned (.tuple #[.int .i64 (L k).1, .agg #[.int .i64 (L k).2.1, .int .i64 (L k).2.2.1], .int .i64 (L k).2.2.2]) ∧ ∃ own', I own' (n + 3) w' ∧ Left w w' own own'

structure Inner (I : (Nat → Prop) → Nat → World → Prop) : Prop where
  lt : ∀ own n w b, I own n w → own b → b < w.heap.size
  nob : ∀ own n w w', I own n w → Only Nob w w' → I own n w'

/-- Since w0: new blocks may be its own. -/
structure Since (w0 w : World) (own : Nat → Prop) (I : (Nat → Prop) → Nat → World → Prop) (n : Nat) : Prop where
  of : ∃ own', I own' n w ∧ Left w0 w own own'

theorem Left.trans {w0 w w' : World} {own own' own'' : Nat → Prop} (h : Left w0 w own own') (k : Left w w' own' own'') : Left w0 w' own own'' := by
  have hs : w0.heap.size ≤ w.heap.size := h.only.size
  refine ⟨h.only.after k.only (fun b hb q => ?_), fun b hb => ?_⟩
  · rcases h.ext b q with r | r
    · exact r
    · omega
  · rcases k.ext b hb with r | r
    · exact h.ext b r
    · exact Or.inr (by omega)

section
variable {w0 w w' : World} {own : Nat → Prop} {I : (Nat → Prop) → Nat → World → Prop} {n N ma mo : Nat} {g h : Int} {R : Nat → Int × Int} {L : Nat → Int × Int × Int × Int}

theorem Since.nob (hI : Inner I) (s : Since w0 w own I n) (o : Only Nob w w') : Since w0 w' own I n := by
  obtain ⟨own', h1, h2⟩ := s.of
  exact ⟨own', hI.nob _ _ _ _ h1 o, h2.trans ⟨o.of_nob, fun b hb => Or.inl hb⟩⟩
theorem Since.rd (a : Ans ma g I N R L) (s : Since w0 w own I n) {k : Nat} (hk : k < 512) (hn : n ≤ N) : Calls Try.prog 18 #[pt ma, .int .i64 g, .int .i64 k] w fun e w' => e = .returned (.tuple #[.int .i64 (R k).1, .int .i64 (R k).2]) ∧ Since w0 w' own I (n + 3) := by
  obtain ⟨own', h1, h2⟩ := s.of
  refine (a.rd k own' n w hk hn h1).mono ?_
  rintro e w' ⟨rfl, own'', q1, q2⟩
  exact ⟨rfl, ⟨own'', q1, h2.trans q2⟩⟩
theorem Since.ld (a : Ans ma g I N R L) (s : Since w0 w own I n) {k : Nat} (hk : k < 512) (hn : n ≤ N) : Calls Try.prog 23 #[pt ma, .int .i64 g, .int .i64 k] w fun e w' => e = .returned (.tuple #[.int .i64 (L k).1, .agg #[.int .i64 (L k).2.1, .int .i64 (L k).2.2.1], .int .i64 (L k).2.2.2]) ∧ Since w0 w' own I (n + 3) := by
  obtain ⟨own', h1, h2⟩ := s.of
  refine (a.ld k own' n w hk hn h1).mono ?_
  rintro e w' ⟨rfl, own'', q1, q2⟩
  exact ⟨rfl, ⟨own'', q1, h2.trans q2⟩⟩
/-- Behind a block that the walk has laid: it stays. -/
theorem Since.ldB (hI : Inner I) (a : Ans ma g I N R L) (s : Since w0 w own I n) {k : Nat} (hk : k < 512) (hn : n ≤ N) (o : Obj) : Calls Try.prog 23 #[pt ma, .int .i64 g, .int .i64 k] (w.alloc o) fun e w' => e = .returned (.tuple #[.int .i64 (L k).1, .agg #[.int .i64 (L k).2.1, .int .i64 (L k).2.2.1], .int .i64 (L k).2.2.2]) ∧ Since w0 w' own I (n + 3) ∧ ∃ T : Nat → Prop, ¬ T w.heap.size ∧ Only T (w.alloc o) w' := by
  obtain ⟨own', h1, h2⟩ := s.of
  have h3 := hI.nob _ _ _ _ h1 ((Only.refl Nob w).alloc o)
  refine (a.ld k own' n _ hk hn h3).mono ?_
  rintro e w' ⟨rfl, own'', q1, q2⟩
  refine ⟨rfl, ⟨own'', q1, (h2.trans ⟨((Only.refl Nob w).alloc o).of_nob, fun b hb => Or.inl hb⟩).trans q2⟩, own', fun q => ?_, q2.only⟩
  have := hI.lt _ _ _ _ h1 q
  omega
end

theorem row2 (w : World) (x y : Int) : (w.alloc (.cells #[.int .i64 x, .int .i64 y] 47)).rowIs w.heap.size 47 2 (fun i => if i = 0 then .int .i64 x else .int .i64 y) :=
  World.rowIs_alloc w #[.int .i64 x, .int .i64 y] 47 (fun i => if i = 0 then .int .i64 x else .int .i64 y) (fun i hi => by
    have hi : i < 2 := hi
    have e : i = 0 ∨ i = 1 := by omega
    rcases e with e | e <;> subst e <;> rfl)

set_option maxRecDepth 100000 in
set_option maxHeartbeats 4000000 in
theorem same_any (w : World) (I : (Nat → Prop) → Nat → World → Prop) (own : Nat → Prop) (ma mo n N : Nat) (g h : Int) (R : Nat → Int × Int) (L : Nat → Int × Int × Int × Int) (hI : Inner I) (a : Ans ma g I N R L) (b : Ans mo h I N R L) (h0 : I own n w) (hn : n + 12 * 512 ≤ N) :
    Calls Try.prog 27 #[pt ma, .int .i64 g, pt mo, .int .i64 h] w fun e w' => e = .returned (.bool true) ∧ ∃ own', I own' (n + 12 * 512) w' ∧ Left w w' own own' := by
  have HI := hid hI
  have HA := hid a
  have HB := hid b
  have HS0 : Hid (Since w w own I n) := ⟨own, h0, ⟨Only.refl _ _, fun b hb => Or.inl hb⟩⟩
  clear hI a b h0
  go_enter Try.func27, Try.ntmps27
  go_wp2_with fail
  go_loopw [9] (fun s9 wr => ∃ k : Nat, k ≤ 512 ∧ s9 = .int .i64 k ∧ Since w wr own I (n + 12 * k)) (fun s9 _ => 512 - (intOf s9).toNat)
  case atStart => exact ⟨0, by omega, rfl, HS0.out⟩
  case round =>
    clear HS0
    rename World => wr
    obtain ⟨k, hk, rfl, hS⟩ := hrel
    have HS := hid hS
    clear hS
    by_cases hlt : k < 512
    · have hk2 : (k : Int) < 512 := by omega
      have HR := hid (HS.out.rd HA.out hlt (by omega))
      clear HS
      have hRd : ∃ r1 r2, R k = (r1, r2) := ⟨_, _, rfl⟩
      obtain ⟨r1, r2, hR⟩ := hRd
      have hLd : ∃ l1 l2 l3 l4, L k = (l1, l2, l3, l4) := ⟨_, _, _, _, rfl⟩
      obtain ⟨l1, l2, l3, l4, hL⟩ := hLd
      have HR1 := hid hR
      have HL1 := hid hL
      clear hR hL
      go_wp2_with fail
      refine HR.out.mono ?_
      rintro e w1 ⟨rfl, hS1⟩
      rw [HR1.out]
      have HR2 := hid (hS1.rd HB.out hlt (by omega))
      clear hS1
      go_wp2_with fail
      refine HR2.out.mono ?_
      rintro e w2 ⟨rfl, hS2⟩
      rw [HR1.out]
      have HR3 := hid (hS2.ld HA.out hlt (by omega))
      clear hS2
      go_wp2_with fail
      refine HR3.out.mono ?_
      rintro e w3 ⟨rfl, hS3⟩
      rw [HL1.out]
      have HR4 := hid (hS3.ldB HI.out HB.out hlt (by omega) (.cells #[.int .i64 l2, .int .i64 l3] 47))
      clear hS3
      go_wp2_with fail
      refine HR4.out.mono ?_
      rintro e w4 ⟨rfl, hS4, T, hT, hO⟩
      rw [HL1.out]
      have rB := hO.row (row2 w3 l2 l3) hT
      have g0 : w4.cell? ⟨w3.heap.size, 0, none⟩ = some (.int .i64 l2) := rB.cell (i := 0) (by show 0 < 2; omega)
      have g1 : w4.cell? ⟨w3.heap.size, 1, none⟩ = some (.int .i64 l3) := rB.cell (i := 1) (by show 1 < 2; omega)
      have g4 := rB.lt
      have HS5 := hid (hS4.nob HI.out ((Only.refl Nob w4).alloc (.cells #[.int .i64 l2, .int .i64 l3] 47)))
      clear hS4 hO rB
      go_wp2_with fail
      go_roundw
      case rel => exact ⟨k + 1, by omega, by go_num, HS5.out⟩
      case measure => simp [intOf]; omega
    · have hk2 : ¬ (k : Int) < 512 := by omega
      go_wp2
      go_ret
      have hk3 : k = 512 := by omega
      subst hk3
      obtain ⟨own', q1, q2⟩ := HS.out.of
      exact ⟨rfl, own', q1, q2⟩
end Go.Proofs.Ytfcepnhknmbaaaa

/- The law Apart: its body. -/
namespace Go.Proofs.Ytfcepnhknmbaaaa
open Go.RowKit Go.Deep

/-- A step as data. -/
structure StD where
  k : Int
  g : Int
  a : Int
  b : Int
  W : Bool

structure StAt (w : World) (bb oo : Nat) (o : StD) : Prop where
  c0 : w.cell? ⟨bb, oo, none⟩ = some (.int .i64 o.k)
  c1 : w.cell? ⟨bb, oo + 1, none⟩ = some (.int .i64 o.g)
  c2 : w.cell? ⟨bb, oo + 2, none⟩ = some (.int .i64 o.a)
  c3 : w.cell? ⟨bb, oo + 3, none⟩ = some (.int .i64 o.b)
  c4 : w.cell? ⟨bb, oo + 4, none⟩ = some (.bool o.W)
  g64 : In64 o.g
  a64 : In64 o.a
  b64 : In64 o.b

theorem StAt.only {w w' : World} {T : Nat → Prop} {bb oo : Nat} {o : StD} (h : StAt w bb oo o) (q : Only T w w') (hb : ¬ T bb) : StAt w' bb oo o :=
  ⟨q.keep hb h.c0, q.keep hb h.c1, q.keep hb h.c2, q.keep hb h.c3, q.keep hb h.c4, h.g64, h.a64, h.b64⟩

/-- What the walk is told of the script. -/
def StScript (w : World) (sa : Option Addr) (len : Nat) : Prop := len ≤ 10000000000000 ∧ ∃ O : Nat → StD, ∀ j, j < len → ∃ bb oo, sa = some ⟨bb, oo, none⟩ ∧ StAt w bb (oo + j * 5) (O j)

theorem ap_lt {n : Nat} (h : n ≤ 100000000000000) : n + 3 < maxLen := by unfold maxLen; omega

set_option maxRecDepth 100000 in
set_option maxHeartbeats 4000000 in
theorem apart_walk (w : World) (sa : Option Addr) (len cap : Nat) (v : Int) (hv : In64 v) (h : StScript w sa len) :
    Calls Try.prog 5 #[.slice sa len cap, .int .i64 v] w fun e w' => e = .returned (.bool true) ∧ Below w.heap.size w w' := by
  obtain ⟨hl, O, hO⟩ := h
  have HS := hid hO
  clear hO
  go_enter Try.func5, Try.ntmps5
  go_wp2_with fail
  refine (machine_any _ 64 3 (by omega) (by omega) (by omega) (by omega) (by omega)).mono ?_
  rintro e w1 ⟨ma, A, rfl, hR1, hI1⟩
  have HR1 := hid hR1
  have HI1 := hid hI1
  clear hR1 hI1
  go_wp2_with fail
  refine (machine_any _ 64 3 (by omega) (by omega) (by omega) (by omega) (by omega)).mono ?_
  rintro e w2 ⟨mo, B, rfl, hR2, hI2⟩
  have hp := pickI_bd v 3 (by omega)
  have HB0 := hid (Both.start HR1.out HI1.out hR2 hI2 (1 + pickI v 3))
  clear hR2 hI2 HR1 HI1
  go_wp2_with fail
  refine (pick_any _ v 3 hv.1 hv.2 (by omega) (by omega)).mono ?_
  rintro e w3 ⟨rfl, rfl⟩
  generalize pickI v 3 = u at *
  have hu : In64 (1 + u) := ⟨by omega, by omega⟩
  go_wp2_with fail
  go_loopw [7] (fun s7 wr => ∃ i : Nat, i ≤ len ∧ s7 = .int .i64 i ∧ Both w wr ma mo (10 + 3 * i) (1 + u)) (fun s7 _ => len - (intOf s7).toNat)
  case atStart => exact ⟨0, by omega, rfl, HB0.out⟩
  case round =>
    clear HB0
    rename World => wr
    obtain ⟨i, hi, rfl, hB⟩ := hrel
    by_cases hlt : i < len
    · obtain ⟨bb, oo, rfl, hO⟩ := HS.out i hlt
      have hOw := hO
      have hO := hO.only hB.b (fun q => q)
      have HB := hid hB
      clear hB
      have HOW := hid hOw
      clear hOw
      have hi2 : (i : Int) < (len : Int) := by omega
      generalize O i = o at *
      obtain ⟨c0, c1, c2, c3, c4, g64, a64, b64⟩ := hO
      have hq := pickI_bd o.g 3 (by omega)
      go_wp2_with fail
      refine (pick_any _ o.g 3 g64.1 g64.2 (by omega) (by omega)).mono ?_
      rintro e w3 ⟨rfl, rfl⟩
      generalize pickI o.g 3 = t at *
      have ht : In64 (1 + t) := ⟨by omega, by omega⟩
      by_cases hne : t = u
      · subst hne
        go_wp2_with fail
        refine (HB.out.first o.k o.g o.a o.b o.W a64 b64 ht (by omega) (by omega) (ap_lt (by omega))).mono ?_
        rintro e w4 ⟨x, y, z, rfl, hb4, hnext⟩
        have HN := hid hnext
        clear hnext
        obtain ⟨d0, d1, d2, d3, d4, _, _, _⟩ := HOW.out.only hb4 (fun q => q)
        go_wp2_with fail
        refine (HN.out _ (Only.refl Nob _)).mono ?_
        rintro e w5 ⟨rfl, hB5⟩
        have HB5 := hid hB5
        clear hB5
        go_wp2
        go_roundw
        case rel => exact ⟨i + 1, by omega, by go_num, HB5.out⟩
        case measure => simp [intOf]; omega
      · have hne2 : 1 + t ≠ 1 + u := by omega
        have hne3 : 1 + u ≠ 1 + t := by omega
        go_wp2_with fail
        refine (HB.out.other o.k o.g o.a o.b (1 + t) o.W a64 b64 ht (ap_lt (by omega)) hne3).mono ?_
        rintro e w4 ⟨x, y, z, rfl, hB5⟩
        have HB5 := hid hB5
        clear hB5
        go_wp2
        go_roundw
        case rel => exact ⟨i + 1, by omega, by go_num, HB5.out⟩
        case measure => simp [intOf]; omega
    · have HB := hid hB
      clear hB
      have hi2 : ¬ (i : Int) < (len : Int) := by omega
      go_wp2
      go_loopw [15] (fun s wx => ∃ k : Nat, k ≤ 512 ∧ s = .int .i64 k ∧ Both w wx ma mo (10 + 3 * i + 3 * k) (1 + u)) (fun s _ => 512 - (intOf s).toNat)
      case atStart => exact ⟨0, by omega, rfl, HB.out⟩
      case round =>
        clear HB
        rename World => wx
        obtain ⟨k, hk, rfl, hB⟩ := hrel
        have HB := hid hB
        clear hB
        by_cases hlt2 : k < 512
        · have hk2 : (k : Int) < 512 := by omega
          go_wp2_with fail
          refine (HB.out.read k hk2 hu (ap_lt (by omega))).mono ?_
          rintro e w4 ⟨x, z, rfl, hnext⟩
          have HN := hid hnext
          clear hnext
          go_wp2_with fail
          refine (HN.out _ (Only.refl Nob _)).mono ?_
          rintro e w5 ⟨rfl, hB5⟩
          have HB5 := hid hB5
          clear hB5
          go_wp2
          go_roundw
          case rel => exact ⟨k + 1, by omega, by go_num, HB5.out⟩
          case measure => simp [intOf]; omega
        · have hk2 : ¬ (k : Int) < 512 := by omega
          go_wp2
          go_ret
          exact ⟨rfl, HB.out.b.below (fun _ _ q => q)⟩
end Go.Proofs.Ytfcepnhknmbaaaa

/- The law Saved: two machines side by side, its calls, its body. -/
namespace Go.Proofs.Ytfcepnhknmbaaaa
open Go.RowKit Go.Deep

theorem in64_1 : In64 1 := in64_lit (by omega) (by omega)
def Machs (w : World) (ma mo : Nat) (own : Nat → Prop) (A B : Abs) : Prop := ∃ ownA ownB, Rep w ma ownA A ∧ Rep w mo ownB B ∧ (∀ b, ownA b → ¬ ownB b) ∧ (∀ b, own b ↔ ownA b ∨ ownB b)

section
variable {w0 w w' : World} {ma mo n N : Nat} {own : Nat → Prop} {A B A0 A' B' : Abs} {g h : Int}

theorem Machs.symm (t : Machs w ma mo own A B) : Machs w mo ma own B A := by
  obtain ⟨ownA, ownB, h1, h2, h3, h4⟩ := t
  exact ⟨ownB, ownA, h2, h1, fun b q r => h3 b r q, fun b => by rw [h4]; exact Or.comm⟩
theorem Machs.lt (t : Machs w ma mo own A B) {b : Nat} (hb : own b) : b < w.heap.size := by
  obtain ⟨ownA, ownB, h1, h2, h3, h4⟩ := t
  rcases (h4 b).1 hb with q | q
  · exact h1.own_lt q
  · exact h2.own_lt q
theorem Machs.nob (t : Machs w ma mo own A B) (o : Only Nob w w') : Machs w' ma mo own A B := by
  obtain ⟨ownA, ownB, h1, h2, h3, h4⟩ := t
  exact ⟨ownA, ownB, h1.nob o, h2.nob o, h3, h4⟩
theorem Machs.left (t : Machs w ma mo own A B) {F : Nat} {args : Array Value} {Q : Ending → Abs → Prop} (hc : ∀ ownA, Rep w ma ownA A → Calls Try.prog F args w fun e w' => ∃ own' A', Q e A' ∧ Rep w' ma own' A' ∧ Left w w' ownA own') :
    Calls Try.prog F args w fun e w' => ∃ own' A', Q e A' ∧ Machs w' ma mo own' A' B ∧ Left w w' own own' := by
  obtain ⟨ownA, ownB, h1, h2, h3, h4⟩ := t
  refine (hc ownA h1).mono ?_
  rintro e w' ⟨own', A', q, r1, r2⟩
  refine ⟨fun b => own' b ∨ ownB b, A', q, ⟨own', ownB, r1, h2.only r2.only (fun b hb q => h3 b q hb), fun b hb q => ?_, fun b => Iff.rfl⟩, ⟨r2.only.mono (fun b _ q => (h4 b).2 (Or.inl q)), fun b hb => ?_⟩⟩
  · rcases r2.ext b hb with s | s
    · exact h3 b s q
    · have := h2.own_lt q
      omega
  · rcases hb with hb | hb
    · exact (r2.ext b hb).imp (fun q => (h4 b).2 (Or.inl q)) id
    · exact Or.inl ((h4 b).2 (Or.inr hb))

def Side (w0 w : World) (ma mo : Nat) (A B : Abs) : Prop := ∃ own, Machs w ma mo own A B ∧ Only Nob w0 w ∧ ∀ b, own b → w0.heap.size ≤ b

theorem Side.symm (t : Side w0 w ma mo A B) : Side w0 w mo ma B A := by
  obtain ⟨own, h1, h2⟩ := t
  exact ⟨own, h1.symm, h2⟩
theorem Side.b (t : Side w0 w ma mo A B) : Only Nob w0 w := by
  obtain ⟨own, h1, h2, _⟩ := t
  exact h2
theorem Side.nob (t : Side w0 w ma mo A B) (o : Only Nob w w') : Side w0 w' ma mo A B := by
  obtain ⟨own, h1, h2, h3⟩ := t
  exact ⟨own, h1.nob o, h2.trans o, h3⟩
theorem Side.of {own own' : Nat → Prop} (h2 : Only Nob w0 w) (h3 : ∀ b, own b → w0.heap.size ≤ b) (t : Machs w' ma mo own' A' B') (l : Left w w' own own') : Side w0 w' ma mo A' B' := by
  have hs : w0.heap.size ≤ w.heap.size := h2.size
  refine ⟨own', t, h2.after l.only (fun b hb q => absurd (h3 b q) (by omega)), fun b hb => ?_⟩
  rcases l.ext b hb with q | q
  · exact h3 b q
  · omega
theorem Side.left (t : Side w0 w ma mo A B) {F : Nat} {args : Array Value} {Q : Ending → Abs → Prop} (hc : ∀ ownA, Rep w ma ownA A → Calls Try.prog F args w fun e w' => ∃ own' A', Q e A' ∧ Rep w' ma own' A' ∧ Left w w' ownA own') :
    Calls Try.prog F args w fun e w' => ∃ A', Q e A' ∧ Side w0 w' ma mo A' B := by
  obtain ⟨own, h1, h2, h3⟩ := t
  refine (h1.left hc).mono ?_
  rintro e w' ⟨own', A', q, r1, r2⟩
  exact ⟨A', q, Side.of h2 h3 r1 r2⟩
theorem Side.start {w1 w2 : World} (h1 : Run w0 w1 ma A) (h2 : Run w1 w2 mo B) : Side w0 w2 ma mo A B := by
  obtain ⟨ownA, a1, a2, a3⟩ := h1
  obtain ⟨ownB, b1, b2, b3⟩ := h2
  have hsz : w0.heap.size ≤ w1.heap.size := a2.size
  refine ⟨fun b => ownA b ∨ ownB b, ⟨ownA, ownB, a1.nob b2, b1, fun b hb q => ?_, fun _ => Iff.rfl⟩, a2.trans b2, fun b hb => ?_⟩
  · have := b3 b q
    have := a1.own_lt hb
    omega
  · rcases hb with q | q
    · exact a3 b q
    · have := b3 b q
      omega

/-! The calls. -/
theorem Side.done (t : Side w0 w ma mo A B) (hs : Solo A) (hk : A.kn ≤ n) (k gg a b : Int) (W : Bool) (ha : In64 a) (hb : In64 b) (hn : n + 3 < maxLen) :
    Calls Try.prog 19 #[pt ma, stV k gg a b W, .int .i64 1] w fun e w' => ∃ x y z, e = .returned (.tuple #[.int .i64 x, .int .i64 y, .int .i64 z]) ∧ ∃ A', Side w0 w' ma mo A' B ∧ Solo A' ∧ A'.kn ≤ n + 3 := by
  refine (t.left (Q := fun e A' => ∃ x y z, e = .returned (.tuple #[.int .i64 x, .int .i64 y, .int .i64 z]) ∧ Solo A' ∧ A'.kn ≤ n + 3) (fun ownA hr => ?_)).mono ?_
  · refine (done_any w ma ownA A hr k gg a b 1 W ha hb in64_1 (by omega)).mono ?_
    rintro e w' ⟨own', A', x, y, z, rfl, q1, q2, q3⟩
    obtain ⟨t1, t2⟩ := q3.solo hs (asks_ok k a b W)
    exact ⟨own', A', ⟨x, y, z, rfl, t1, by omega⟩, q1, q2⟩
  · rintro e w' ⟨A', ⟨x, y, z, rfl, q1, q2⟩, q3⟩
    exact ⟨x, y, z, rfl, A', q3, q1, q2⟩

theorem Side.free (t : Side w0 w ma mo A B) (hs : Solo A) : 39 ≤ A.free := by
  obtain ⟨own, ⟨ownA, ownB, h1, _⟩, _⟩ := t
  exact hs.free h1
theorem Side.non (t : Side w0 w ma mo A B) (hg : A.has g = false) (p : Nat) : A.pg g p = none := by
  obtain ⟨own, ⟨ownA, ownB, ⟨S, H, hM, hI, hS, ho⟩, _⟩, _⟩ := t
  exact hS.non g p (hS.none hg)
theorem Side.good (t : Side w0 w ma mo A B) (hg : A.has g = true) : (A.pic g).Good := by
  obtain ⟨own, ⟨ownA, ownB, ⟨S, H, hM, hI, hS, ho⟩, _⟩, _⟩ := t
  obtain ⟨r, hr⟩ := hS.some hg
  exact (hS.pic hr).symm.good (pic_good hM hI hr)

theorem Side.save (t : Side w0 w ma mo A B) (hg : A.has g = true) (h64 : In64 g) (hk : A.kn + 64 < maxLen) :
    Calls Try.prog 24 #[pt ma, .int .i64 g] w fun e w' => e = .returned (.tuple #[.string (toS (encL (A.pic g))), .int .i64 0]) ∧ Side w0 w' ma mo (A.up 64) B := by
  refine (t.left (Q := fun e A' => e = .returned (.tuple #[.string (toS (encL (A.pic g))), .int .i64 0]) ∧ A' = A.up 64) (fun ownA hr => ?_)).mono ?_
  · refine (absSave hr g h64 hk).mono ?_
    rintro e w' ⟨own', rfl, q1, q2, _⟩
    rw [hg]
    exact ⟨own', _, ⟨rfl, rfl⟩, q1, q2⟩
  · rintro e w' ⟨A', ⟨rfl, rfl⟩, q⟩
    exact ⟨rfl, q⟩

theorem pic_void (A : Abs) (g : Int) {p : Nat} (h : (A.pic g).pr p = false) : (A.pic g).wr p = false ∧ ∀ k, (A.pic g).wd p k = 0 := by
  have hn : A.pg g p = none := by
    have h : (A.pg g p).isSome = false := h
    simpa using h
  exact ⟨by show (match A.pg g p with | .some (_, b) => b | .none => false) = false; rw [hn], fun k => by show (match A.pg g p with | .some (f, _) => A.wd f k | .none => 0) = 0; rw [hn]⟩

theorem enc_valid {P : Pic} (hG : P.Good) (hT : P.Tidy) : Valid (nats (toS (encL P))) ∧ (picOf (nats (toS (encL P)))).Same P ∧ (toS (encL P)).size ≤ 2000 ∧ 32 ≤ (toS (encL P)).size := by
  have hl := cntF_le P.fil 64
  have h2 := encL_len P
  rw [nats_toS (bys_enc hG)]
  refine ⟨Or.inr (Or.inr (enc_form hG hT)), ?_, by rw [toS_size]; omega, by rw [toS_size]; omega⟩
  have h3 : bt (encL P) 2 = 3 := by rw [enc_head (by omega)]; rfl
  rw [picOf, h3]
  exact enc_same hG

/-- What a Restore leaves. -/
structure Entered (A A' : Abs) (g : Int) (P : Pic) : Prop where
  pic : (A'.pic g).Same P
  has : A'.has g = true
  kn : A'.kn = A.kn
  oth : ∀ g', g' ≠ g → (A'.pic g').Same (A.pic g') ∧ A'.has g' = A.has g'
  sep : ∀ g' p q f b b', g' ≠ g → p < 64 → q < 64 → A'.pg g p = some (f, b) → A'.pg g' q ≠ some (f, b')

theorem Side.restore (t : Side w0 w ma mo A B) {P : Pic} (hG : P.Good) (hT : P.Tidy) (hP : ∀ p, p < 64 → P.pr p = false → P.wr p = false ∧ ∀ k, k < 8 → P.wd p k = 0) (hlo : ∀ p, 16 ≤ p → p < 64 → P.pr p = false) (hf : 33 ≤ A.free) (hc : A.cnt < 4) (hl : A.last < 100) (hg : g = (A.last : Int) + 1) (hno : A.has g = false) :
    Calls Try.prog 25 #[pt ma, .string (toS (encL P))] w fun e w' => e = .returned (.tuple #[.int .i64 g, .int .i64 0]) ∧ ∃ A', Side w0 w' ma mo A' B ∧ Entered A A' g P := by
  subst hg
  obtain ⟨hV, hS, hz, _⟩ := enc_valid hG hT
  have hpn := t.non hno
  refine (t.left (Q := fun e A' => e = .returned (.tuple #[.int .i64 ((A.last : Int) + 1), .int .i64 0]) ∧ Entered A A' ((A.last : Int) + 1) P) (fun ownA hr => ?_)).mono ?_
  · refine (absRestore hr _ (by unfold maxLen; omega) hV (by omega)).mono ?_
    rintro e w' ⟨Q, own', A', h1, h2, rfl, q1, q2, q3⟩
    have hs := h1.trans hS
    have h33 : Q.frames ≤ 33 := frames_few (fun p hp hq => by rw [hs.pr p hq]; exact hlo p hp hq)
    have hcode : A.admitCode Q = 0 := by
      rw [Abs.admitCode, if_neg (by omega), if_neg (by omega)]
    rw [hcode]
    obtain ⟨c1, c2, c3, c4, c5⟩ := Admits.sees (fun p hp hq => by
      have := hP p hp (by rw [← hs.pr p hp]; exact hq)
      exact ⟨by rw [hs.wr p hp]; exact this.1, fun k hk => by rw [hs.wd p k hp hk]; exact this.2 k hk⟩) (fun p _ => hpn p) q3 hcode
    exact ⟨own', A', ⟨rfl, ⟨c1.trans hs, c2, c3, c4, c5⟩⟩, q1, q2⟩
  · rintro e w' ⟨A', ⟨rfl, q⟩, q2⟩
    exact ⟨rfl, A', q2, q⟩

/-! Near: but for the cache. -/
structure Near (A A' : Abs) : Prop where
  has : A'.has = A.has
  pg : A'.pg = A.pg
  wd : A'.wd = A.wd
  rt : A'.rt = A.rt

theorem Near.refl (A : Abs) : Near A A := ⟨rfl, rfl, rfl, rfl⟩
theorem Near.ticks (h : Near A A') (k : B = A' ∨ B = A'.tick) : Near A B ∧ B.kn ≤ A'.kn + 3 := by
  rcases k with rfl | rfl
  · exact ⟨h, by omega⟩
  · exact ⟨⟨h.has, h.pg, h.wd, h.rt⟩, by show A'.kn + 1 ≤ A'.kn + 3; omega⟩
theorem Near.up (h : Near A A') (n : Nat) : Near A (A'.up n) := ⟨h.has, h.pg, h.wd, h.rt⟩
theorem Near.pic (h : Near A A') (g : Int) : A'.pic g = A.pic g := by simp only [Abs.pic, h.pg, h.wd, h.rt]
theorem Near.alike (q : Near A A') (m : Alike A B g h) : Alike A' B g h := ⟨by rw [q.has]; exact m.ha, m.hb, by rw [q.pic]; exact m.s, by rw [q.rt]; exact m.r0⟩

def NearI (ma mo : Nat) (A B : Abs) (own : Nat → Prop) (n : Nat) (w : World) : Prop := ∃ A' B', Machs w ma mo own A' B' ∧ Near A A' ∧ Near B B' ∧ A'.kn ≤ n ∧ B'.kn ≤ n
theorem NearI.inner (ma mo : Nat) (A B : Abs) : Inner (NearI ma mo A B) := by
  refine ⟨fun own n w b h hb => ?_, fun own n w w' h o => ?_⟩
  · obtain ⟨A', B', t, _⟩ := h
    exact t.lt hb
  · obtain ⟨A', B', t, h⟩ := h
    exact ⟨A', B', t.nob o, h⟩
theorem NearI.ans (m : Alike A A0 g h) (h64 : In64 g) (hN : N + 3 < maxLen) : Ans ma g (NearI ma mo A B) N (fun k => A0.readAt h k) (fun k => A0.loadAt h k) := by
  refine ⟨fun k own n w hk hn hI => ?_, fun k own n w hk hn hI => ?_⟩
  · obtain ⟨A', B', t, q1, q2, q3, q4⟩ := hI
    refine (t.left (Q := fun e A'' => e = .returned (.tuple #[.int .i64 (A0.readAt h k).1, .int .i64 (A0.readAt h k).2]) ∧ Near A A'' ∧ A''.kn ≤ n + 3) (fun ownA hr => ?_)).mono ?_
    · refine (absRead hr g k h64 (by omega)).mono ?_
      rintro e w' ⟨own', A'', rfl, r1, r2, r3⟩
      obtain ⟨n1, n2⟩ := q1.ticks r3
      exact ⟨own', A'', ⟨by rw [(q1.alike m).readAt (by omega)], n1, by omega⟩, r1, r2⟩
    · rintro e w' ⟨own', A'', ⟨rfl, n1, n2⟩, r1, r2⟩
      exact ⟨rfl, own', ⟨A'', B', r1, n1, q2, n2, by omega⟩, r2⟩
  · obtain ⟨A', B', t, q1, q2, q3, q4⟩ := hI
    refine (t.left (Q := fun e A'' => e = .returned (.tuple #[.int .i64 (A0.loadAt h k).1, .agg #[.int .i64 (A0.loadAt h k).2.1, .int .i64 (A0.loadAt h k).2.2.1], .int .i64 (A0.loadAt h k).2.2.2]) ∧ Near A A'' ∧ A''.kn ≤ n + 3) (fun ownA hr => ?_)).mono ?_
    · refine (absLoad hr g k h64 (by omega)).mono ?_
      rintro e w' ⟨own', rfl, r1, r2⟩
      exact ⟨own', _, ⟨by rw [(q1.alike m).loadAt (by omega)], q1.up 3, by show A'.kn + 3 ≤ n + 3; omega⟩, r1, r2⟩
    · rintro e w' ⟨own', A'', ⟨rfl, n1, n2⟩, r1, r2⟩
      exact ⟨rfl, own', ⟨A'', B', r1, n1, q2, n2, by omega⟩, r2⟩
theorem Ans.of {I J : (Nat → Prop) → Nat → World → Prop} {R : Nat → Int × Int} {L : Nat → Int × Int × Int × Int} (a : Ans ma g I N R L) (hij : ∀ own n w, I own n w ↔ J own n w) : Ans ma g J N R L := by
  have e : I = J := funext fun own => funext fun n => funext fun w => propext (hij own n w)
  rw [← e]; exact a
theorem NearI.symm (own : Nat → Prop) (n : Nat) (w : World) : NearI ma mo A B own n w ↔ NearI mo ma B A own n w := by
  constructor
  · rintro ⟨A', B', t, q1, q2, q3, q4⟩
    exact ⟨B', A', t.symm, q2, q1, q4, q3⟩
  · rintro ⟨A', B', t, q1, q2, q3, q4⟩
    exact ⟨B', A', t.symm, q2, q1, q4, q3⟩

/-- What is had behind both Restores: guests that are one. -/
structure Kin (w0 w : World) (ma mo : Nat) (A B A' B' : Abs) (n : Nat) : Prop where
  s : Side w0 w ma mo A' B'
  na : Near A A'
  nb : Near B B'
  ka : A'.kn ≤ n
  kb : B'.kn ≤ n

theorem Kin.same {A' B' : Abs} (h : Kin w0 w ma mo A B A' B' n) (m1 : Alike A A0 1 1) (m2 : Alike A A0 2 1) (hn : n + 12 * 512 + 3 < maxLen) :
    Calls Try.prog 27 #[pt ma, .int .i64 1, pt ma, .int .i64 2] w fun e w' => e = .returned (.bool true) ∧ ∃ A' B', Kin w0 w' ma mo A B A' B' (n + 12 * 512) := by
  obtain ⟨own, t, h2, h3⟩ := h.s
  refine (same_any w (NearI ma mo A B) own ma ma n (n + 12 * 512) 1 2 _ _ (NearI.inner _ _ _ _) (NearI.ans m1 in64_1 hn) (NearI.ans m2 (in64_lit (by omega) (by omega)) hn) ⟨A', B', t, h.na, h.nb, h.ka, h.kb⟩ (Nat.le_refl _)).mono ?_
  rintro e w' ⟨rfl, own', ⟨A'', B'', t', q1, q2, q3, q4⟩, l⟩
  exact ⟨rfl, A'', B'', Side.of h2 h3 t' l, q1, q2, q3, q4⟩
theorem Kin.there {A' B' : Abs} (h : Kin w0 w ma mo A B A' B' n) (m1 : Alike A A0 1 1) (m2 : Alike B A0 3 1) (hn : n + 12 * 512 + 3 < maxLen) :
    Calls Try.prog 27 #[pt ma, .int .i64 1, pt mo, .int .i64 3] w fun e w' => e = .returned (.bool true) ∧ ∃ A' B', Kin w0 w' ma mo A B A' B' (n + 12 * 512) := by
  obtain ⟨own, t, h2, h3⟩ := h.s
  refine (same_any w (NearI ma mo A B) own ma mo n (n + 12 * 512) 1 3 _ _ (NearI.inner _ _ _ _) (NearI.ans m1 in64_1 hn) ((NearI.ans (ma := mo) (mo := ma) (B := A) m2 (in64_lit (by omega) (by omega)) hn).of NearI.symm) ⟨A', B', t, h.na, h.nb, h.ka, h.kb⟩ (Nat.le_refl _)).mono ?_
  rintro e w' ⟨rfl, own', ⟨A'', B'', t', q1, q2, q3, q4⟩, l⟩
  exact ⟨rfl, A'', B'', Side.of h2 h3 t' l, q1, q2, q3, q4⟩
theorem Kin.read {A' B' : Abs} (h : Kin w0 w ma mo A B A' B' n) (m1 : Alike A A0 1 1) {a : Int} (ha : a < 512) (hn : n + 3 < maxLen) :
    Calls Try.prog 18 #[pt ma, .int .i64 1, .int .i64 a] w fun e w' => e = .returned (.tuple #[.int .i64 (A0.readAt 1 a).1, .int .i64 (A0.readAt 1 a).2]) ∧ ∃ A', Kin w0 w' ma mo A B A' B' (n + 3) := by
  have hk := h.ka
  refine (h.s.left (Q := fun e A'' => e = .returned (.tuple #[.int .i64 (A0.readAt 1 a).1, .int .i64 (A0.readAt 1 a).2]) ∧ Near A A'' ∧ A''.kn ≤ n + 3) (fun ownA hr => ?_)).mono ?_
  · refine (absRead hr 1 a in64_1 (by omega)).mono ?_
    rintro e w' ⟨own', A'', rfl, r1, r2, r3⟩
    obtain ⟨n1, n2⟩ := h.na.ticks r3
    exact ⟨own', A'', ⟨by rw [(h.na.alike m1).readAt ha], n1, by omega⟩, r1, r2⟩
  · rintro e w' ⟨A'', ⟨rfl, n1, n2⟩, r⟩
    exact ⟨rfl, A'', r, n1, h.nb, n2, by have := h.kb; omega⟩
/-- A word written into guest 2: guest 1 has what it had. -/
theorem Kin.write {A' B' : Abs} (h : Kin w0 w ma mo A B A' B' n) (m1 : Alike A A0 1 1) (sep : ∀ p q f b b', p < 64 → q < 64 → A.pg 2 p = some (f, b) → A.pg 1 q ≠ some (f, b')) {a v : Int} (ha : a < 512) (hn : n + 3 < maxLen) :
    Calls Try.prog 17 #[pt ma, .int .i64 2, .int .i64 a, .int .i64 v] w fun e w' => ∃ x, e = .returned (.int .i64 x) ∧ ∃ A2 A', Kin w0 w' ma mo A2 B A' B' (n + 3) ∧ Alike A2 A0 1 1 := by
  have hk := h.ka
  refine (h.s.left (Q := fun e A'' => (∃ x, e = .returned (.int .i64 x)) ∧ A''.kn ≤ n + 3 ∧ Alike A'' A0 1 1) (fun ownA hr => ?_)).mono ?_
  · refine (absWrite hr 2 a v (in64_lit (by omega) (by omega)) (by omega)).mono ?_
    rintro e w' ⟨own', A'', rfl, r1, r2, r3, r4⟩
    refine ⟨own', A'', ⟨⟨_, rfl⟩, ?_⟩, r1, r2⟩
    have m := h.na.alike m1
    by_cases hz : A'.writeCode 2 a v = 0
    · obtain ⟨f, b, e, rfl⟩ := r3 hz
      rw [h.na.pg] at e
      refine ⟨by show A'.kn + 1 ≤ n + 3; omega, m.ha, m.hb, ?_, m.r0⟩
      have hs : ((A'.wrote f (a.toNat % 8) v).pic 1).Same (A'.pic 1) := by
        refine ⟨rfl, fun p hp => rfl, fun p hp => rfl, fun p k hp hk => ?_⟩
        show (match A'.pg 1 p with | .some (f', _) => (if f' = f ∧ k = a.toNat % 8 then v else A'.wd f' k) | .none => 0) = (match A'.pg 1 p with | .some (f', _) => A'.wd f' k | .none => 0)
        cases e2 : A'.pg 1 p with
        | none => rfl
        | some y =>
          rw [h.na.pg] at e2
          show (if y.1 = f ∧ k = a.toNat % 8 then v else A'.wd y.1 k) = A'.wd y.1 k
          rw [if_neg]
          rintro ⟨q, _⟩
          exact sep (a.toNat / 8) p f b y.2 (by omega) hp e (by rw [e2, ← q])
      exact hs.trans m.s
    · obtain ⟨n1, n2⟩ := h.na.ticks (r4 hz)
      exact ⟨by omega, n1.alike m1⟩
  · rintro e w' ⟨A'', ⟨⟨x, rfl⟩, n2, m⟩, r⟩
    exact ⟨x, rfl, A'', A'', ⟨r, Near.refl _, h.nb, n2, by have := h.kb; omega⟩, m⟩
end
end Go.Proofs.Ytfcepnhknmbaaaa

/- The law Saved: its body. -/
namespace Go.Proofs.Ytfcepnhknmbaaaa
open Go.RowKit Go.Deep

theorem sv_lt {n : Nat} (h : n ≤ 100000000000000) : n + 12 * 512 + 3 < maxLen := by unfold maxLen; omega

section
variable {w0 w w' : World} {ma mo n : Nat} {A B A1 B1 A2 B2 : Abs}

theorem kept_alike (s : Side w0 w ma mo A B) (hs : Solo A) (e : Entered (A.up 64) A1 2 (A.pic 1)) : Alike A1 A1 1 1 ∧ Alike A1 A1 2 1 := by
  have hh : A.has 1 = true := by rw [hs.has]; rfl
  have hg := s.good hh
  obtain ⟨o1, o2⟩ := e.oth 1 (by decide)
  have o1 : (A1.pic 1).Same (A.pic 1) := o1
  have o2 : A1.has 1 = A.has 1 := o2
  have r1 : A1.rt 1 < 64 := (o1.good hg).r1
  have r2 : A1.rt 2 < 64 := (e.pic.good hg).r1
  exact ⟨⟨by rw [o2]; exact hh, by rw [o2]; exact hh, ⟨rfl, fun _ _ => rfl, fun _ _ => rfl, fun _ _ _ _ => rfl⟩, r1⟩, ⟨e.has, by rw [o2]; exact hh, e.pic.trans o1.symm, r2⟩⟩
theorem kept_alikeB (s : Side w0 w ma mo A B) (hs : Solo A) (e : Entered (A.up 64) A1 2 (A.pic 1)) (e' : Entered B B1 3 (A.pic 1)) : Alike B1 A1 3 1 := by
  have hh : A.has 1 = true := by rw [hs.has]; rfl
  have hg := s.good hh
  obtain ⟨o1, o2⟩ := e.oth 1 (by decide)
  have o1 : (A1.pic 1).Same (A.pic 1) := o1
  have o2 : A1.has 1 = A.has 1 := o2
  have r2 : B1.rt 3 < 64 := (e'.pic.good hg).r1
  exact ⟨e'.has, by rw [o2]; exact hh, e'.pic.trans o1.symm, r2⟩
end

set_option maxRecDepth 100000 in
set_option maxHeartbeats 4000000 in
theorem saved_walk (w : World) (sa : Option Addr) (len cap : Nat) (at' word : Int) (hat : In64 at') (hwd : In64 word) (h : StScript w sa len) :
    Calls Try.prog 9 #[.slice sa len cap, .int .i64 at', .int .i64 word] w fun e w' => e = .returned (.bool true) ∧ Below w.heap.size w w' := by
  obtain ⟨hl, O, hO⟩ := h
  have HS := hid hO
  clear hO
  go_enter Try.func9, Try.ntmps9
  go_wp2_with fail
  refine (machine_any _ 64 1 (by omega) (by omega) (by omega) (by omega) (by omega)).mono ?_
  rintro e w1 ⟨ma, A0, rfl, hR1, hI1⟩
  have HR1 := hid hR1
  have HI1 := hid hI1
  clear hR1 hI1
  go_wp2_with fail
  refine (machine_any _ 64 2 (by omega) (by omega) (by omega) (by omega) (by omega)).mono ?_
  rintro e w2 ⟨mo, B, rfl, hR2, hI2⟩
  have HIB : Hid (Init B 64 2) := hI2
  have HK0 : Hid (∃ A, Side w w2 ma mo A B ∧ Solo A ∧ A.kn ≤ 10 + 3 * 0) := by
    have hi := HI1.out
    exact ⟨A0, Side.start HR1.out hR2, ⟨hi.an, hi.cnt, hi.last, fun g => by rw [hi.has]; congr 1; apply propext; constructor <;> intro q <;> (try simp at q) <;> (try simp) <;> omega, fun p _ _ => hi.pg 1 p⟩, by have := hi.kn; omega⟩
  clear hR2 hI2 HR1 HI1
  go_wp2_with fail
  go_loopw [9] (fun s9 wr => ∃ i : Nat, i ≤ len ∧ s9 = .int .i64 i ∧ ∃ A, Side w wr ma mo A B ∧ Solo A ∧ A.kn ≤ 10 + 3 * i) (fun s9 _ => len - (intOf s9).toNat)
  case atStart => exact ⟨0, by omega, rfl, HK0.out⟩
  case round =>
    clear HK0
    rename World => wr
    obtain ⟨i, hi, rfl, A, hA, hSo, hkn⟩ := hrel
    have HSo := hid hSo
    by_cases hlt : i < len
    · obtain ⟨bb, oo, rfl, hO⟩ := HS.out i hlt
      have hO := hO.only hA.b (fun q => q)
      have HA := hid hA
      clear hA hSo
      have hi2 : (i : Int) < (len : Int) := by omega
      generalize O i = o at *
      obtain ⟨c0, c1, c2, c3, c4, g64, a64, b64⟩ := hO
      go_wp2_with fail
      refine (HA.out.done HSo.out hkn o.k o.g o.a o.b o.W a64 b64 (ap_lt (by omega))).mono ?_
      rintro e w4 ⟨x, y, z, rfl, A', q1, q2, q3⟩
      have HQ : Hid (∃ A, Side w w4 ma mo A B ∧ Solo A ∧ A.kn ≤ 10 + 3 * (i + 1)) := ⟨A', q1, q2, by omega⟩
      clear q1 q2 q3
      go_wp2
      go_roundw
      case rel => exact ⟨i + 1, by omega, by go_num, HQ.out⟩
      case measure => simp [intOf]; omega
    · have hi2 : ¬ (i : Int) < (len : Int) := by omega
      have hh : A.has 1 = true := by rw [hSo.has]; rfl
      have hG := hA.good hh
      have hT := A.pic_tidy 1
      obtain ⟨hV, hPS, hz, hz2⟩ := enc_valid hG hT
      have hvoid := fun p (_ : p < 64) (q : (A.pic 1).pr p = false) => (⟨(pic_void A 1 q).1, fun k _ => (pic_void A 1 q).2 k⟩ : (A.pic 1).wr p = false ∧ ∀ k, k < 8 → (A.pic 1).wd p k = 0)
      have hlo : ∀ p, 16 ≤ p → p < 64 → (A.pic 1).pr p = false := fun p h1 h2 => by show (A.pg 1 p).isSome = false; rw [hSo.lo p h1 h2]; rfl
      have HSV := hid (hA.save hh in64_1 (by have := @ap_lt (10 + 3 * i + 64) (by omega); omega))
      have hfr := hA.free hSo
      have HRA : Hid (∀ wx, Side w wx ma mo (A.up 64) B → Calls Try.prog 25 #[pt ma, .string (toS (encL (A.pic 1)))] wx fun e w' => e = .returned (.tuple #[.int .i64 2, .int .i64 0]) ∧ ∃ A', Side w w' ma mo A' B ∧ Entered (A.up 64) A' 2 (A.pic 1)) := fun wx t => t.restore hG hT hvoid hlo (by show 33 ≤ A.free; omega) (by show A.cnt < 4; rw [hSo.cnt]; omega) (by show A.last < 100; rw [hSo.last]; omega) (by show (2 : Int) = (A.last : Int) + 1; rw [hSo.last]; rfl) (by show A.has 2 = false; rw [hSo.has]; rfl)
      have HRB : Hid (∀ wx A', Side w wx ma mo A' B → Calls Try.prog 25 #[pt mo, .string (toS (encL (A.pic 1)))] wx fun e w' => e = .returned (.tuple #[.int .i64 3, .int .i64 0]) ∧ ∃ B', Side w w' ma mo A' B' ∧ Entered B B' 3 (A.pic 1)) := fun wx A' t => by
        have hi := HIB.out
        refine (t.symm.restore (g := 3) hG hT hvoid hlo (by have := hi.free; omega) (by rw [hi.cnt]; omega) (by rw [hi.last]; omega) (by rw [hi.last]; rfl) (by rw [hi.has]; rfl)).mono ?_
        rintro e w' ⟨rfl, B', q1, q2⟩
        exact ⟨rfl, B', q1.symm, q2⟩
      have HUP : Hid (∀ wx : World, Calls Try.prog 26 #[.string (toS (encL (A.pic 1)))] wx fun e w' => e = .returned (.tuple #[.string (toS (encL (A.pic 1))), .int .i64 0]) ∧ Only Nob wx w') := fun wx => by
        refine (upgrade_any wx _ (by unfold maxLen; omega)).mono ?_
        rintro e w' ⟨q1, _, q3⟩
        have q := q1 hV
        rw [encL_congr hPS] at q
        exact ⟨q, q3⟩
      have HSA : Hid (∀ wx A' B', Side w wx ma mo A' B' → Entered (A.up 64) A' 2 (A.pic 1) → Calls Try.prog 24 #[pt ma, .int .i64 2] wx fun e w' => e = .returned (.tuple #[.string (toS (encL (A.pic 1))), .int .i64 0]) ∧ Side w w' ma mo (A'.up 64) B') := fun wx A' B' t c => by
        have hk2 : A'.kn = A.kn + 64 := c.kn
        have := t.save c.has (in64_lit (by omega) (by omega)) (by have := @ap_lt (10 + 3 * i + 64 + 64) (by omega); omega)
        rw [encL_congr c.pic] at this
        exact this
      have HAL : Hid (∀ A' B', Entered (A.up 64) A' 2 (A.pic 1) → Entered B B' 3 (A.pic 1) → Alike A' A' 1 1 ∧ Alike A' A' 2 1 ∧ Alike B' A' 3 1 ∧ A'.kn = A.kn + 64 ∧ B'.kn ≤ 10) := fun A' B' c c' => ⟨(kept_alike hA hSo c).1, (kept_alike hA hSo c).2, kept_alikeB hA hSo c c', c.kn, by rw [c'.kn]; exact HIB.out.kn⟩
      have hz3 : ¬ (((toS (encL (A.pic 1))).size : Nat) : Int) < 32 := by omega
      clear hA hSo HSo hG hT hV hPS hvoid hlo hfr hh HIB hz2
      generalize toS (encL (A.pic 1)) = sv at *
      have hp := pickI_bd at' 512 (by omega)
      have hq := pickI_bd word 65536 (by omega)
      go_wp2_with fail
      refine HSV.out.mono ?_
      rintro e w4 ⟨rfl, t4⟩
      have HT4 := hid t4
      clear t4 HSV
      go_wp2_with fail
      refine (HRA.out _ HT4.out).mono ?_
      rintro e w5 ⟨rfl, A1, t5, c5⟩
      have HT5 := hid t5
      have HC5 := hid c5
      clear t5 c5 HRA HT4
      go_wp2_with fail
      refine (HRB.out _ _ HT5.out).mono ?_
      rintro e w6 ⟨rfl, B1, t6, c6⟩
      have HT6 := hid t6
      have HC6 := hid c6
      clear t6 c6 HRB HT5
      go_wp2_with fail
      refine (HSA.out _ _ _ HT6.out HC5.out).mono ?_
      rintro e w7 ⟨rfl, t7⟩
      have HT7 := hid t7
      clear t7 HSA HT6
      go_wp2_with fail
      refine (HUP.out _).mono ?_
      rintro e w8 ⟨rfl, o8⟩
      obtain ⟨m1, m2, m3, k1, k2⟩ := HAL.out A1 B1 HC5.out HC6.out
      have HKin : Hid (Kin w w8 ma mo A1 B1 (A1.up 64) B1 (200 + 3 * i)) := ⟨HT7.out.nob o8, (Near.refl _).up 64, Near.refl _, by show A1.kn + 64 ≤ _; omega, by omega⟩
      have HM1 := hid m1
      have HM2 := hid m2
      have HM3 := hid m3
      have HSEP : Hid (∀ p q f b b', p < 64 → q < 64 → A1.pg 2 p = some (f, b) → A1.pg 1 q ≠ some (f, b')) := fun p q f b b' => HC5.out.sep 1 p q f b b' (by decide)
      clear o8 HUP HT7 m1 m2 m3 k1 k2 HAL HC5 HC6
      go_wp2_with fail
      refine (HKin.out.same HM1.out HM2.out (sv_lt (by omega))).mono ?_
      rintro e w9 ⟨rfl, A2, B2, q9⟩
      have HK9 := hid q9
      clear q9 HKin
      go_wp2_with fail
      refine (HK9.out.there HM1.out HM3.out (sv_lt (by omega))).mono ?_
      rintro e w10 ⟨rfl, A3, B3, q10⟩
      have HK10 := hid q10
      clear q10 HK9
      go_wp2_with fail
      refine (pick_any _ at' 512 hat.1 hat.2 (by omega) (by omega)).mono ?_
      rintro e wx ⟨rfl, rfl⟩
      generalize pickI at' 512 = a at *
      go_wp2_with fail
      refine (HK10.out.read HM1.out (a := a) (by omega) (ap_lt (by omega))).mono ?_
      rintro e w11 ⟨rfl, A4, q11⟩
      have HK11 := hid q11
      clear q11 HK10
      generalize hrr : A1.readAt 1 a = rr
      have HRR := hid hrr
      clear hrr
      go_wp2_with fail
      refine (pick_any _ word 65536 hwd.1 hwd.2 (by omega) (by omega)).mono ?_
      rintro e wx ⟨rfl, rfl⟩
      generalize pickI word 65536 = v at *
      go_wp2_with fail
      refine (HK11.out.write HM1.out HSEP.out (a := a) (v := v) (by omega) (ap_lt (by omega))).mono ?_
      rintro e w12 ⟨x, rfl, A5, A6, q12, m5⟩
      have HK12 := hid q12
      have HM5 := hid m5
      clear q12 m5 HK11
      go_wp2_with fail
      refine (HK12.out.read HM5.out (a := a) (by omega) (ap_lt (by omega))).mono ?_
      rintro e w13 ⟨rfl, A7, q13⟩
      rw [HRR.out]
      have HK13 := hid q13
      clear q13 HK12
      go_wp2_with fail
      go_ret
      exact ⟨rfl, HK13.out.s.b.below (fun _ _ q => q)⟩
end Go.Proofs.Ytfcepnhknmbaaaa
