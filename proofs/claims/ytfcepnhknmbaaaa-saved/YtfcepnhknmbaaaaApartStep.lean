/- The law Apart: a step of a guest ('Did'), alone and in two machines at once. -/
import Derived.Test.YtfcepnhknmbaaaaApartPure
import Derived.Test.YtfcepnhknmbaaaaKeepA
namespace Go.Proofs.Ytfcepnhknmbaaaa
open Go.RowKit Go.Deep

/-- What a step on guest g answers, and what it leaves: pg, qg: pages; ad: an address; v: a word. -/
structure Asks where
  k : Int
  pg : Int
  qg : Int
  ad : Int
  v : Int
  W : Bool

structure Asks.ok (s : Asks) : Prop where
  p0 : 0 ≤ s.pg
  p1 : s.pg < 16
  q0 : 0 ≤ s.qg
  q1 : s.qg < 16
  a0 : 0 ≤ s.ad
  a1 : s.ad < 128

def Did (A : Abs) (s : Asks) (g x y z : Int) (A' : Abs) : Prop :=
  (s.k = 1 ∧ x = 0 ∧ y = 0 ∧ z = A.mapCode g s.pg ∧ (z = 0 → ∃ f, A.New f ∧ A' = A.mapped g s.pg.toNat f s.W) ∧ (z ≠ 0 → A' = A ∨ A' = A.tick)) ∨
  (s.k = 2 ∧ x = 0 ∧ y = 0 ∧ z = A.unmapCode g s.pg ∧ (z = 0 → ∃ n, A' = A.unmapped g s.pg.toNat n) ∧ (z ≠ 0 → A' = A ∨ A' = A.tick)) ∨
  (s.k = 3 ∧ x = 0 ∧ y = 0 ∧ z = A.writeCode g s.ad s.v ∧ (z = 0 → ∃ f c, A.pg g (s.ad.toNat / 8) = some (f, c) ∧ A' = A.wrote f (s.ad.toNat % 8) s.v) ∧ (z ≠ 0 → A' = A ∨ A' = A.tick)) ∨
  (s.k = 4 ∧ x = (A.storeAt g s.ad s.v).1 ∧ y = (A.storeAt g s.ad s.v).2.1 ∧ z = (A.storeAt g s.ad s.v).2.2 ∧ (A.stores g s.ad s.v = true → A' = A.stored (A.turned g (s.ad.toNat / 8) true).1 (s.ad.toNat % 8) s.v ∧ ∃ q b, q < 64 ∧ A.pg g q = some ((A.turned g (s.ad.toNat / 8) true).1, b)) ∧ (A.stores g s.ad s.v = false → A' = A.up 3)) ∨
  (s.k = 5 ∧ x = 0 ∧ y = 0 ∧ z = A.rootCode g (s.pg - 1) ∧ (z = 0 → A' = A.rooted g (s.pg - 1)) ∧ (z ≠ 0 → A' = A)) ∨
  (s.k = 6 ∧ x = wrap64 (wrap64 (wrap64 (16 * (A.loadAt g s.ad).1) + wrap64 (4 * (A.loadAt g s.ad).2.1)) + (A.loadAt g s.ad).2.2.1) ∧ y = 0 ∧ z = (A.loadAt g s.ad).2.2.2 ∧ A' = A.up 3) ∨
  (s.k = 7 ∧ x = (A.readAt g s.ad).1 ∧ y = 0 ∧ z = (A.readAt g s.ad).2 ∧ (A' = A ∨ A' = A.tick)) ∨
  ((s.k < 1 ∨ 7 < s.k) ∧ x = 0 ∧ y = 0 ∧ z = A.shareCode g s.pg g s.qg s.W ∧ (z = 0 → ∃ f c, A.pg g s.pg.toNat = some (f, c) ∧ A' = A.shared g s.qg.toNat f s.W) ∧ (z ≠ 0 → A' = A.up 2))

section
variable {A A' B B' : Abs} {s : Asks} {g x y z x' y' z' : Int}

theorem Tri.ticks (t : Tri A) (h : A' = A ∨ A' = A.tick) : Tri A' ∧ Quiet A A' g ∧ A'.kn ≤ A.kn + 3 := by
  rcases h with rfl | rfl
  · exact ⟨t, Quiet.refl _ _, by omega⟩
  · exact ⟨t.same rfl rfl rfl, Quiet.same rfl rfl rfl, by show A.kn + 1 ≤ A.kn + 3; omega⟩

/-- A step keeps the machine in order, and others' sight. -/
theorem Did.tri (d : Did A s g x y z A') (t : Tri A) (ok : s.ok) : Tri A' ∧ Quiet A A' g ∧ A'.kn ≤ A.kn + 3 := by
  have o1 := ok.p0
  have o2 := ok.p1
  have o3 := ok.q0
  have o4 := ok.q1
  have o5 := ok.a0
  have o6 := ok.a1
  rcases d with ⟨_, _, _, _, h1, h2⟩ | ⟨_, _, _, _, h1, h2⟩ | ⟨_, _, _, _, h1, h2⟩ | ⟨_, _, _, _, h1, h2⟩ | ⟨_, _, _, _, h1, h2⟩ | ⟨_, _, _, _, rfl⟩ | ⟨_, _, _, _, h⟩ | ⟨_, _, _, _, h1, h2⟩
  · by_cases hz : z = 0
    · obtain ⟨f, hn, rfl⟩ := h1 hz
      obtain ⟨q1, q2⟩ := t.mapped (g := g) (p := s.pg.toNat) (b := s.W) (by omega) hn
      exact ⟨q1, q2, by show A.kn + 1 ≤ A.kn + 3; omega⟩
    · exact t.ticks (h2 hz)
  · by_cases hz : z = 0
    · obtain ⟨n, rfl⟩ := h1 hz
      obtain ⟨q1, q2⟩ := t.unmapped (g := g) (p := s.pg.toNat) (n := n)
      exact ⟨q1, q2, by show A.kn + 1 ≤ A.kn + 3; omega⟩
    · exact t.ticks (h2 hz)
  · by_cases hz : z = 0
    · obtain ⟨f, c, e, rfl⟩ := h1 hz
      obtain ⟨q1, q2⟩ := t.put (A' := A.wrote f (s.ad.toNat % 8) s.v) (g := g) (q := s.ad.toNat / 8) (by omega) e rfl rfl rfl rfl (fun _ _ => rfl)
      exact ⟨q1, q2, by show A.kn + 1 ≤ A.kn + 3; omega⟩
    · exact t.ticks (h2 hz)
  · cases hz : A.stores g s.ad s.v with
    | true =>
      obtain ⟨rfl, q, b, hq, e⟩ := h1 hz
      obtain ⟨q1, q2⟩ := t.put (A' := A.stored (A.turned g (s.ad.toNat / 8) true).1 (s.ad.toNat % 8) s.v) (g := g) (q := q) hq e rfl rfl rfl rfl (fun _ _ => rfl)
      exact ⟨q1, q2, by show A.kn + 3 ≤ A.kn + 3; omega⟩
    | false =>
      have e := h2 hz
      subst e
      exact ⟨t.same rfl rfl rfl, Quiet.same rfl rfl rfl, by show A.kn + 3 ≤ A.kn + 3; omega⟩
  · by_cases hz : z = 0
    · have e := h1 hz
      subst e
      exact ⟨t.same rfl rfl rfl, Quiet.rooted _ _ _, by show A.kn ≤ A.kn + 3; omega⟩
    · have e := h2 hz
      subst e
      exact ⟨t, Quiet.refl _ _, by omega⟩
  · exact ⟨t.same rfl rfl rfl, Quiet.same rfl rfl rfl, by show A.kn + 3 ≤ A.kn + 3; omega⟩
  · exact t.ticks h
  · by_cases hz : z = 0
    · obtain ⟨f, c, e, rfl⟩ := h1 hz
      obtain ⟨q1, q2⟩ := t.shared (g := g) (p := s.pg.toNat) (q := s.qg.toNat) (b := s.W) (by omega) (by omega) e
      exact ⟨q1, q2, by show A.kn + 2 ≤ A.kn + 3; omega⟩
    · have e := h2 hz
      subst e
      exact ⟨t.same rfl rfl rfl, Quiet.same rfl rfl rfl, by show A.kn + 2 ≤ A.kn + 3; omega⟩

/-! The same step in both. -/
theorem Sim.ticks (m : Sim A B g) (h1 : A' = A ∨ A' = A.tick) (h2 : B' = B ∨ B' = B.tick) : Sim A' B' g := by
  rcases h1 with rfl | rfl <;> rcases h2 with rfl | rfl
  · exact m
  · exact m.congr rfl rfl rfl rfl rfl rfl
  · exact m.congr rfl rfl rfl rfl rfl rfl
  · exact m.congr rfl rfl rfl rfl rfl rfl

theorem Sim.some (m : Sim A B g) {p : Nat} (hp : p < 64) : (A.pg g p).isSome = (B.pg g p).isSome := by
  rcases m.pair hp with ⟨e1, e2⟩ | ⟨f, h, b, e1, e2⟩
  · rw [e1, e2]
  · rw [e1, e2]; rfl

theorem tri_check (tA : Tri A) (tB : Tri B) (b : Bool) : A.check g b = B.check g b := by simp only [Abs.check, tA.has, tB.has]

theorem Sim.mapCode (m : Sim A B g) (tA : Tri A) (tB : Tri B) (fA : 2 ≤ A.free) (fB : 2 ≤ B.free) {p : Int} (h0 : 0 ≤ p) (h1 : p < 64) : A.mapCode g p = B.mapCode g p := by
  have n1 : ¬ A.free < A.need g p.toNat := by rw [Abs.need]; split <;> omega
  have n2 : ¬ B.free < B.need g p.toNat := by rw [Abs.need]; split <;> omega
  simp only [Abs.mapCode, tri_check tA tB, m.some (p := p.toNat) (by omega), n1, n2]

theorem Sim.unmapCode (m : Sim A B g) (tA : Tri A) (tB : Tri B) {p : Int} (h0 : 0 ≤ p) (h1 : p < 64) : A.unmapCode g p = B.unmapCode g p := by
  simp only [Abs.unmapCode, tri_check tA tB, m.some (p := p.toNat) (by omega)]

theorem Sim.writeCode (m : Sim A B g) (tA : Tri A) (tB : Tri B) {a v : Int} (h0 : 0 ≤ a) (h1 : a < 512) : A.writeCode g a v = B.writeCode g a v := by
  simp only [Abs.writeCode, tri_check tA tB]
  rcases m.pair (p := a.toNat / 8) (by omega) with ⟨e1, e2⟩ | ⟨f, h, b, e1, e2⟩
  · rw [e1, e2]
  · rw [e1, e2]

theorem Sim.readAt (m : Sim A B g) (tA : Tri A) (tB : Tri B) {a : Int} (h1 : a < 512) : A.readAt g a = B.readAt g a := by
  simp only [Abs.readAt, tri_check tA tB]
  rcases m.pair (p := a.toNat / 8) (by omega) with ⟨e1, e2⟩ | ⟨f, h, b, e1, e2⟩
  · rw [e1, e2]
  · rw [e1, e2]
    simp only [m.wd _ f b h b (by omega) e1 e2]

theorem Sim.loadAt (m : Sim A B g) (tA : Tri A) (tB : Tri B) (hr : A.rt g < 64) {a : Int} (h1 : a < 512) : A.loadAt g a = B.loadAt g a := by
  obtain ⟨e1, e2⟩ := m.turned (p := a.toNat / 8) (by omega) false hr
  simp only [Abs.loadAt, tri_check tA tB, ← e1]
  by_cases hz : (A.turned g (a.toNat / 8) false).2.1 = 0
  · obtain ⟨r, b, b', hr', q1, q2⟩ := e2 hz
    simp only [hz, if_true, m.wd r _ b _ b' hr' q1 q2]
  · simp only [hz, if_false]

theorem Sim.storeAt (m : Sim A B g) (tA : Tri A) (tB : Tri B) (hr : A.rt g < 64) {a v : Int} (h1 : a < 512) : A.storeAt g a v = B.storeAt g a v ∧ A.stores g a v = B.stores g a v := by
  obtain ⟨e1, _⟩ := m.turned (p := a.toNat / 8) (by omega) true hr
  have e : A.checkV g a v = B.checkV g a v := by simp only [Abs.checkV, tri_check tA tB]
  simp only [Abs.storeAt, Abs.stores, e, e1, and_self]

theorem Sim.shareCode (m : Sim A B g) (tA : Tri A) (tB : Tri B) (fA : 2 ≤ A.free) (fB : 2 ≤ B.free) {p q : Int} {W : Bool} (h0 : 0 ≤ p) (h1 : p < 64) (h2 : 0 ≤ q) (h3 : q < 64) : A.shareCode g p g q W = B.shareCode g p g q W := by
  have n1 : ¬ A.free < A.need1 g q.toNat := by rw [Abs.need1]; split <;> omega
  have n2 : ¬ B.free < B.need1 g q.toNat := by rw [Abs.need1]; split <;> omega
  simp only [Abs.shareCode, tri_check tA tB, tA.has, tB.has, m.some (p := q.toNat) (by omega), n1, n2]
  rcases m.pair (p := p.toNat) (by omega) with ⟨e1, e2⟩ | ⟨f, h, b, e1, e2⟩
  · rw [e1, e2]
  · rw [e1, e2]

theorem Did.sim (d : Did A s g x y z A') (d' : Did B s g x' y' z' B') (m : Sim A B g) (tA : Tri A) (tB : Tri B) (fA : 2 ≤ A.free) (fB : 2 ≤ B.free) (hr : A.rt g < 64) (ok : s.ok) : x = x' ∧ y = y' ∧ z = z' ∧ Sim A' B' g := by
  have o1 := ok.p0
  have o2 := ok.p1
  have o3 := ok.q0
  have o4 := ok.q1
  have o5 := ok.a0
  have o6 := ok.a1
  rcases d with ⟨hk, rfl, rfl, rfl, h1, h2⟩ | ⟨hk, rfl, rfl, rfl, h1, h2⟩ | ⟨hk, rfl, rfl, rfl, h1, h2⟩ | ⟨hk, rfl, rfl, rfl, h1, h2⟩ | ⟨hk, rfl, rfl, rfl, h1, h2⟩ | ⟨hk, rfl, rfl, rfl, rfl⟩ | ⟨hk, rfl, rfl, rfl, h⟩ | ⟨hk, rfl, rfl, rfl, h1, h2⟩
  · rcases d' with ⟨_, rfl, rfl, rfl, k1, k2⟩ | ⟨e, _⟩ | ⟨e, _⟩ | ⟨e, _⟩ | ⟨e, _⟩ | ⟨e, _⟩ | ⟨e, _⟩ | ⟨e, _⟩
    · have hc := m.mapCode tA tB fA fB (p := s.pg) (by omega) (by omega)
      refine ⟨rfl, rfl, hc, ?_⟩
      by_cases hz : A.mapCode g s.pg = 0
      · obtain ⟨f, hf, rfl⟩ := h1 hz
        obtain ⟨h, hh, rfl⟩ := k1 (by rw [← hc]; exact hz)
        exact m.mapped hf hh
      · exact m.ticks (h2 hz) (k2 (by rw [← hc]; exact hz))
    all_goals omega
  · rcases d' with ⟨e, _⟩ | ⟨_, rfl, rfl, rfl, k1, k2⟩ | ⟨e, _⟩ | ⟨e, _⟩ | ⟨e, _⟩ | ⟨e, _⟩ | ⟨e, _⟩ | ⟨e, _⟩
    · omega
    · have hc := m.unmapCode tA tB (p := s.pg) (by omega) (by omega)
      refine ⟨rfl, rfl, hc, ?_⟩
      by_cases hz : A.unmapCode g s.pg = 0
      · obtain ⟨n, rfl⟩ := h1 hz
        obtain ⟨n', rfl⟩ := k1 (by rw [← hc]; exact hz)
        exact m.unmapped
      · exact m.ticks (h2 hz) (k2 (by rw [← hc]; exact hz))
    all_goals omega
  · rcases d' with ⟨e, _⟩ | ⟨e, _⟩ | ⟨_, rfl, rfl, rfl, k1, k2⟩ | ⟨e, _⟩ | ⟨e, _⟩ | ⟨e, _⟩ | ⟨e, _⟩ | ⟨e, _⟩
    · omega
    · omega
    · have hc := m.writeCode tA tB (a := s.ad) (v := s.v) (by omega) (by omega)
      refine ⟨rfl, rfl, hc, ?_⟩
      by_cases hz : A.writeCode g s.ad s.v = 0
      · obtain ⟨f, c, e1, rfl⟩ := h1 hz
        obtain ⟨h, c', e2, rfl⟩ := k1 (by rw [← hc]; exact hz)
        exact m.put (k := s.ad.toNat % 8) (v := s.v) (q := s.ad.toNat / 8) (by omega) e1 e2 rfl rfl (fun _ _ => rfl) rfl rfl (fun _ _ => rfl)
      · exact m.ticks (h2 hz) (k2 (by rw [← hc]; exact hz))
    all_goals omega
  · rcases d' with ⟨e, _⟩ | ⟨e, _⟩ | ⟨e, _⟩ | ⟨_, rfl, rfl, rfl, k1, k2⟩ | ⟨e, _⟩ | ⟨e, _⟩ | ⟨e, _⟩ | ⟨e, _⟩
    · omega
    · omega
    · omega
    · obtain ⟨hc, hst⟩ := m.storeAt tA tB hr (a := s.ad) (v := s.v) (by omega)
      refine ⟨by rw [hc], by rw [hc], by rw [hc], ?_⟩
      cases hz : A.stores g s.ad s.v with
      | true =>
        obtain ⟨e1, e2⟩ := m.turned (p := s.ad.toNat / 8) (by omega) true hr
        have hz0 : (A.turned g (s.ad.toNat / 8) true).2.1 = 0 := by
          simp only [Abs.stores, decide_eq_true_eq] at hz
          exact hz.2
        obtain ⟨r, b, b', hr', q1, q2⟩ := e2 hz0
        obtain ⟨rfl, _⟩ := h1 hz
        obtain ⟨rfl, _⟩ := k1 (by rw [← hst]; exact hz)
        exact m.put (k := s.ad.toNat % 8) (v := s.v) (q := r) hr' q1 q2 rfl rfl (fun _ _ => rfl) rfl rfl (fun _ _ => rfl)
      | false =>
        have e1 := h2 hz
        have e2 := k2 (by rw [← hst]; exact hz)
        subst e1 e2
        exact m.congr rfl rfl rfl rfl rfl rfl
    all_goals omega
  · rcases d' with ⟨e, _⟩ | ⟨e, _⟩ | ⟨e, _⟩ | ⟨e, _⟩ | ⟨_, rfl, rfl, rfl, k1, k2⟩ | ⟨e, _⟩ | ⟨e, _⟩ | ⟨e, _⟩
    · omega
    · omega
    · omega
    · omega
    · have hc : A.rootCode g (s.pg - 1) = B.rootCode g (s.pg - 1) := by simp only [Abs.rootCode, tri_check tA tB]
      refine ⟨rfl, rfl, hc, ?_⟩
      by_cases hz : A.rootCode g (s.pg - 1) = 0
      · have e1 := h1 hz
        have e2 := k1 (by rw [← hc]; exact hz)
        subst e1 e2
        exact m.rooted _
      · have e1 := h2 hz
        have e2 := k2 (by rw [← hc]; exact hz)
        subst e1 e2
        exact m
    all_goals omega
  · rcases d' with ⟨e, _⟩ | ⟨e, _⟩ | ⟨e, _⟩ | ⟨e, _⟩ | ⟨e, _⟩ | ⟨_, rfl, rfl, rfl, rfl⟩ | ⟨e, _⟩ | ⟨e, _⟩
    · omega
    · omega
    · omega
    · omega
    · omega
    · have hc := m.loadAt tA tB hr (a := s.ad) (by omega)
      exact ⟨by rw [hc], rfl, by rw [hc], m.congr rfl rfl rfl rfl rfl rfl⟩
    all_goals omega
  · rcases d' with ⟨e, _⟩ | ⟨e, _⟩ | ⟨e, _⟩ | ⟨e, _⟩ | ⟨e, _⟩ | ⟨e, _⟩ | ⟨_, rfl, rfl, rfl, h'⟩ | ⟨e, _⟩
    · omega
    · omega
    · omega
    · omega
    · omega
    · omega
    · have hc := m.readAt tA tB (a := s.ad) (by omega)
      exact ⟨by rw [hc], rfl, by rw [hc], m.ticks h h'⟩
    · omega
  · rcases d' with ⟨e, _⟩ | ⟨e, _⟩ | ⟨e, _⟩ | ⟨e, _⟩ | ⟨e, _⟩ | ⟨e, _⟩ | ⟨e, _⟩ | ⟨_, rfl, rfl, rfl, k1, k2⟩
    · omega
    · omega
    · omega
    · omega
    · omega
    · omega
    · omega
    · have hc := m.shareCode tA tB fA fB (p := s.pg) (q := s.qg) (W := s.W) (by omega) (by omega) (by omega) (by omega)
      refine ⟨rfl, rfl, hc, ?_⟩
      by_cases hz : A.shareCode g s.pg g s.qg s.W = 0
      · obtain ⟨f, c, e1, rfl⟩ := h1 hz
        obtain ⟨h, c', e2, rfl⟩ := k1 (by rw [← hc]; exact hz)
        exact m.shared (p := s.pg.toNat) (by omega) e1 e2
      · have e1 := h2 hz
        have e2 := k2 (by rw [← hc]; exact hz)
        subst e1 e2
        exact m.congr rfl rfl rfl rfl rfl rfl
end
end Go.Proofs.Ytfcepnhknmbaaaa
