/- The walk of the law Shared. -/
import Derived.Test.YtfcepnhknmbaaaaKeepC
import Derived.Test.YtfcepnhknmbaaaaCount
namespace Go.Proofs.Ytfcepnhknmbaaaa
open Go.RowKit Go.Deep

theorem one_of (m : Nat) (hm : m < 8) : ((List.range 8).filter (fun k => decide (k = m))).length = 1 := by
  have : ∀ m : Fin 8, ((List.range 8).filter (fun k => decide (k = m.val))).length = 1 := by decide
  exact this ⟨m, hm⟩

/-- A group has one page at most: the group's flag. -/
theorem grp_one {A : Abs} {g : Int} {p k : Nat} (hp : p < 64) (hk : k < 8) (h : ∀ p', p' < 64 → (A.pg g p').isSome = decide (p' = p)) : A.grp g k = decide (k = p / 8) := by
  rw [Bool.eq_iff_iff, decide_eq_true_eq]
  simp only [Abs.grp, List.any_eq_true, List.mem_range]
  constructor
  · rintro ⟨i, hi, q⟩
    rw [h _ (by omega), decide_eq_true_eq] at q
    omega
  · intro e
    refine ⟨p % 8, by omega, ?_⟩
    rw [h _ (by omega), decide_eq_true_eq]
    omega

theorem filter_one {A : Abs} {g : Int} {p : Nat} (hp : p < 64) (h : ∀ p', p' < 64 → (A.pg g p').isSome = decide (p' = p)) : ((List.range 8).filter (A.grp g)).length = 1 := by
  rw [← one_of (p / 8) (by omega)]
  congr 1
  apply List.filter_congr
  intro k hk
  exact grp_one hp (by simpa using hk) h

/-- Two guests have one page, and no other. -/
structure Sh (A : Abs) (p q f : Nat) (back : Bool) : Prop where
  n : A.n = 16
  has : ∀ g : Int, A.has g = decide (1 ≤ g ∧ g ≤ 2)
  one : A.pg 1 p = some (f, true)
  two : A.pg 2 q = some (f, back)
  non1 : ∀ p', p' ≠ p → A.pg 1 p' = none
  non2 : ∀ p', p' ≠ q → A.pg 2 p' = none
  non : ∀ g p', g ≠ 1 → g ≠ 2 → A.pg g p' = none
  kn : A.kn ≤ 30

theorem isSome_one {o : Nat → Option (Nat × Bool)} {p f : Nat} {b : Bool} (h1 : o p = some (f, b)) (h2 : ∀ p', p' ≠ p → o p' = none) (p' : Nat) : (o p').isSome = decide (p' = p) := by
  by_cases e : p' = p
  · rw [e, h1]; simp
  · rw [h2 p' e]; simp [e]

theorem Sh.free {X : Nat → Prop} {w : World} {mb : Nat} {A : Abs} {p q f : Nat} {back : Bool} (h : RunX X w mb A) (s : Sh A p q f back) (hp : p < 64) (hq : q < 64) : A.free = 11 := by
  obtain ⟨_, own, ⟨S, H, _, hI, hS, _⟩, _⟩ := h
  have := count_all hI hS (L := [1, 2]) (by decide) (fun g => ?_) (F := [f]) (by simp) (fun f' => ?_)
  · rw [s.n] at this
    simp only [tabPairs, List.length_append, List.length_map, List.length_cons, List.length_nil, filter_one (g := 1) hp (fun p' _ => isSome_one s.one s.non1 p'), filter_one (g := 2) hq (fun p' _ => isSome_one s.two s.non2 p')] at this
    omega
  · rw [s.has]
    simp
    omega
  · constructor
    · intro e
      have e : f' = f := by simpa using e
      exact ⟨1, p, true, hp, by rw [e]; exact s.one⟩
    · rintro ⟨g, p', b, hp', e⟩
      by_cases g1 : g = 1
      · subst g1
        by_cases e1 : p' = p
        · rw [e1, s.one] at e
          injection e with e
          injection e with e _
          simp [e]
        · rw [s.non1 p' e1] at e
          cases e
      · by_cases g2 : g = 2
        · subst g2
          by_cases e1 : p' = q
          · rw [e1, s.two] at e
            injection e with e
            injection e with e _
            simp [e]
          · rw [s.non2 p' e1] at e
            cases e
        · rw [s.non g p' g1 g2] at e
          cases e

/-- One is gone. -/
theorem Sh.gone {X : Nat → Prop} {w : World} {mb : Nat} {A : Abs} {p q f fr : Nat} {back : Bool} {o c : Int} (s : Sh A p q f back) (hp : p < 64) (hq : q < 64) (ho : (o = 1 ∧ c = 2) ∨ (o = 2 ∧ c = 1)) (h : RunX X w mb (A.destroyed o fr)) : fr = 13 := by
  obtain ⟨_, own, ⟨S, H, _, hI, hS, _⟩, _⟩ := h
  have hpg : ∀ g p', (A.destroyed o fr).pg g p' = if g = o then none else A.pg g p' := fun _ _ => rfl
  have hone : ∃ pc, pc < 64 ∧ (∃ b, (A.destroyed o fr).pg c pc = some (f, b)) ∧ ∀ p', p' ≠ pc → (A.destroyed o fr).pg c p' = none := by
    rcases ho with ⟨rfl, rfl⟩ | ⟨rfl, rfl⟩
    · exact ⟨q, hq, ⟨back, by rw [hpg, if_neg (by decide)]; exact s.two⟩, fun p' e => by rw [hpg, if_neg (by decide)]; exact s.non2 p' e⟩
    · exact ⟨p, hp, ⟨true, by rw [hpg, if_neg (by decide)]; exact s.one⟩, fun p' e => by rw [hpg, if_neg (by decide)]; exact s.non1 p' e⟩
  obtain ⟨pc, hpc, ⟨b, h1⟩, h2⟩ := hone
  have hoc : ∀ g, g ≠ c → ∀ p', (A.destroyed o fr).pg g p' = none := fun g hg p' => by
    rw [hpg]
    by_cases e : g = o
    · rw [if_pos e]
    · rw [if_neg e]
      exact s.non g p' (by omega) (by omega)
  have := count_all hI hS (L := [c]) (by simp) (fun g => ?_) (F := [f]) (by simp) (fun f' => ?_)
  · have hn : (A.destroyed o fr).n = 16 := s.n
    rw [hn] at this
    simp only [tabPairs, List.length_append, List.length_map, List.length_cons, List.length_nil, filter_one (g := c) hpc (fun p' _ => isSome_one h1 h2 p')] at this
    have e : (A.destroyed o fr).free = fr := rfl
    rw [e] at this
    omega
  · show _ ↔ (if g = o then false else A.has g) = true
    rw [s.has]
    simp
    omega
  · constructor
    · intro e
      have e : f' = f := by simpa using e
      exact ⟨c, pc, b, hpc, by rw [e]; exact h1⟩
    · rintro ⟨g, p', b', hp', e⟩
      by_cases g1 : g = c
      · subst g1
        by_cases e1 : p' = pc
        · rw [e1, h1] at e
          injection e with e
          injection e with e _
          simp [e]
        · rw [h2 p' e1] at e
          cases e
      · rw [hoc g g1] at e
        cases e
end Go.Proofs.Ytfcepnhknmbaaaa
