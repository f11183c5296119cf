/- The law Apart: frames enough for all; the machines' beginning. -/
import Derived.Test.YtfcepnhknmbaaaaApartStep
import Derived.Test.YtfcepnhknmbaaaaCount
namespace Go.Proofs.Ytfcepnhknmbaaaa
open Go.RowKit Go.Deep

theorem dedup : ∀ L : List Nat, ∃ F : List Nat, F.Nodup ∧ (∀ x, x ∈ F ↔ x ∈ L) ∧ F.length ≤ L.length
  | [] => ⟨[], List.nodup_nil, fun _ => Iff.rfl, Nat.le_refl _⟩
  | a :: L => by
    obtain ⟨F, h1, h2, h3⟩ := dedup L
    by_cases h : a ∈ F
    · refine ⟨F, h1, fun x => ?_, by simp; omega⟩
      rw [h2, List.mem_cons]
      constructor
      · exact fun q => Or.inr q
      · rintro (rfl | q)
        · exact (h2 x).1 h
        · exact q
    · refine ⟨a :: F, List.nodup_cons.2 ⟨h, h1⟩, fun x => ?_, by simp; omega⟩
      rw [List.mem_cons, List.mem_cons, h2]

theorem len_few {t : Int → Nat → Bool} {c : Nat} (h : ∀ g, ((List.range 8).filter (t g)).length ≤ c) : ∀ L : List Int, (tabPairs t L).length ≤ c * L.length
  | [] => by simp [tabPairs]
  | g :: L => by
    have := len_few h L
    have h2 := h g
    simp only [tabPairs, List.length_append, List.length_map, List.length_cons]
    rw [Nat.mul_add]
    omega

section
variable {w : World} {mb : Nat} {own : Nat → Prop} {A : Abs}

theorem Tri.grp (t : Tri A) (g : Int) {k : Nat} (h2 : 2 ≤ k) (h8 : k < 8) : A.grp g k = false := by
  cases hk : A.grp g k with
  | false => rfl
  | true =>
    rw [Abs.grp, List.any_eq_true] at hk
    obtain ⟨i, hi, e⟩ := hk
    rw [List.mem_range] at hi
    rw [t.lo g (8 * k + i) (by omega) (by omega)] at e
    cases e

theorem Tri.free (t : Tri A) (h : Rep w mb own A) : 7 ≤ A.free := by
  obtain ⟨S, H, hM, hI, hS, ho⟩ := h
  obtain ⟨F, f1, f2, f3⟩ := dedup ([1, 2, 3].flatMap (fun g : Int => (List.range 16).filterMap (fun p => (A.pg g p).map Prod.fst)))
  have hc := count_all hI hS (L := [1, 2, 3]) (by decide) (fun g => by
    rw [t.has, decide_eq_true_eq]
    simp only [List.mem_cons, List.not_mem_nil, or_false]
    omega) f1 (fun f => by
    rw [f2, List.mem_flatMap]
    constructor
    · rintro ⟨g, _, hq⟩
      obtain ⟨p, hp, e⟩ := List.mem_filterMap.1 hq
      rw [List.mem_range] at hp
      cases hx : A.pg g p with
      | none => rw [hx] at e; cases e
      | some y =>
        rw [hx] at e
        injection e with e
        exact ⟨g, p, y.2, by omega, by rw [hx, ← e]⟩
    · rintro ⟨g, p, b, hp, e⟩
      have h16 : p < 16 := by
        by_cases q : p < 16
        · exact q
        · rw [t.lo g p (by omega) hp] at e; cases e
      have hg : A.has g = true := by
        obtain ⟨r, hr⟩ := pg_root hS e
        rw [hS.has, hr]; rfl
      rw [t.has, decide_eq_true_eq] at hg
      refine ⟨g, ?_, List.mem_filterMap.2 ⟨p, List.mem_range.2 h16, by rw [e]; rfl⟩⟩
      simp only [List.mem_cons, List.not_mem_nil, or_false]
      omega)
  have h1 : (tabPairs A.grp [1, 2, 3]).length ≤ 2 * 3 := len_few (c := 2) (fun g => by
    have e : (List.range 8).filter (A.grp g) = (List.range 2).filter (A.grp g) := by
      simp only [show List.range 8 = [0, 1, 2, 3, 4, 5, 6, 7] from rfl, show List.range 2 = [0, 1] from rfl, List.filter, t.grp g (k := 2) (by omega) (by omega), t.grp g (k := 3) (by omega) (by omega), t.grp g (k := 4) (by omega) (by omega), t.grp g (k := 5) (by omega) (by omega), t.grp g (k := 6) (by omega) (by omega), t.grp g (k := 7) (by omega) (by omega)]
    rw [e]
    exact Nat.le_trans (List.length_filter_le _ _) (by simp)) [1, 2, 3]
  have h2 : ∀ g : Int, ((List.range 16).filterMap (fun p => (A.pg g p).map Prod.fst)).length ≤ 16 := fun g => Nat.le_trans (List.length_filterMap_le _ _) (by simp)
  have h3 : ([1, 2, 3].flatMap (fun g : Int => (List.range 16).filterMap (fun p => (A.pg g p).map Prod.fst))).length ≤ 48 := by
    have a1 := h2 1
    have a2 := h2 2
    have a3 := h2 3
    simp only [List.flatMap_cons, List.flatMap_nil, List.length_append, List.length_nil]
    omega
  have hn := t.n
  simp only [List.length_cons, List.length_nil] at hc
  omega

theorem Rep.rt_lt (h : Rep w mb own A) (t : Tri A) {g : Int} (h1 : 1 ≤ g) (h3 : g ≤ 3) : A.rt g < 64 := by
  obtain ⟨S, H, hM, hI, hS, ho⟩ := h
  have hg : A.has g = true := by rw [t.has, decide_eq_true_eq]; omega
  obtain ⟨r, hr⟩ := hS.some hg
  rw [hS.rt g r hr]
  exact (hI.rt hr).2

theorem Init.tri (h : Init A 64 3) : Tri A :=
  ⟨h.an, fun g => by rw [h.has]; simp, fun g p _ _ => h.pg g p, fun g1 g2 p1 p2 f b1 b2 _ _ e _ => by rw [h.pg] at e; cases e⟩

theorem Init.sim {B : Abs} (h : Init A 64 3) (k : Init B 64 3) (g : Int) : Sim A B g := by
  refine ⟨fun p _ => ?_, fun p q f f' h1 h2 b1 b2 b3 b4 _ _ e _ _ _ => ?_, fun p f b h' b' _ e _ _ => ?_, ?_⟩
  · rw [h.pg, k.pg]
  · rw [h.pg] at e; cases e
  · rw [h.pg] at e; cases e
  · rw [h.rt, k.rt]
end
end Go.Proofs.Ytfcepnhknmbaaaa
