/- Frames counted: the free ones, the roots, the tables, the pages' are all. -/
import Derived.Test.YtfcepnhknmbaaaaBlankWalk
namespace Go.Proofs.Ytfcepnhknmbaaaa
open Go.RowKit Go.Deep

theorem nodup_map_on {α β : Type} {f : α → β} : ∀ {L : List α}, L.Nodup → (∀ a ∈ L, ∀ b ∈ L, f a = f b → a = b) → (L.map f).Nodup
  | [], _, _ => List.nodup_nil
  | a :: L, hn, h => by
    obtain ⟨h1, h2⟩ := List.nodup_cons.1 hn
    simp only [List.map_cons]
    refine List.nodup_cons.2 ⟨fun q => ?_, nodup_map_on h2 (fun x hx y hy => h x (by simp [hx]) y (by simp [hy]))⟩
    obtain ⟨b, hb, e⟩ := List.mem_map.1 q
    have : b = a := h b (by simp [hb]) a (by simp) e
    rw [this] at hb
    exact h1 hb

def tabPairs (t : Int → Nat → Bool) : List Int → List (Int × Nat)
  | [] => []
  | g :: L => ((List.range 8).filter (t g)).map (fun k => (g, k)) ++ tabPairs t L

theorem mem_tabPairs {t : Int → Nat → Bool} {g : Int} {k : Nat} : ∀ {L : List Int}, (g, k) ∈ tabPairs t L ↔ g ∈ L ∧ k < 8 ∧ t g k = true
  | [] => by simp [tabPairs]
  | a :: L => by
    simp only [tabPairs, List.mem_append, mem_tabPairs (L := L), List.mem_map, List.mem_filter, List.mem_range, Prod.mk.injEq, List.mem_cons]
    constructor
    · rintro (⟨k', ⟨h1, h2⟩, rfl, rfl⟩ | ⟨h1, h2⟩)
      · exact ⟨Or.inl rfl, h1, h2⟩
      · exact ⟨Or.inr h1, h2⟩
    · rintro ⟨rfl | h, h1, h2⟩
      · exact Or.inl ⟨k, ⟨h1, h2⟩, rfl, rfl⟩
      · exact Or.inr ⟨h, h1, h2⟩

theorem nodup_tabPairs {t : Int → Nat → Bool} : ∀ {L : List Int}, L.Nodup → (tabPairs t L).Nodup
  | [], _ => List.nodup_nil
  | a :: L, h => by
    obtain ⟨h1, h2⟩ := List.nodup_cons.1 h
    simp only [tabPairs]
    rw [List.nodup_append]
    refine ⟨nodup_map_on (List.nodup_range.filter _) (fun x _ y _ e => by injection e), nodup_tabPairs h2, fun x hx y hy e => ?_⟩
    subst e
    obtain ⟨k, _, rfl⟩ := List.mem_map.1 hx
    exact h1 (mem_tabPairs.1 hy).1

theorem count_all {S : MS} {H : Hs} {A : Abs} (hI : Inv S H) (hS : Sees S A) {L : List Int} (hL : L.Nodup) (hm : ∀ g, g ∈ L ↔ A.has g = true) {F : List Nat} (hF : F.Nodup) (hFm : ∀ f, f ∈ F ↔ ∃ g p b, p < 64 ∧ A.pg g p = some (f, b)) :
    A.free + (L.length + ((tabPairs A.grp L).length + F.length)) = A.n := by
  have hr : ∀ g ∈ L, ∃ r, S.G g = some r := fun g hg => hS.some ((hm g).1 hg)
  have hroot : ∀ x ∈ L.map (fun g => (S.G g).getD 0), IsRoot S.G x := fun x hx => by
    obtain ⟨g, hg, e⟩ := List.mem_map.1 hx
    obtain ⟨r, hr⟩ := hr g hg
    rw [hr] at e
    exact ⟨g, by rw [hr]; simpa using e⟩
  have hpair : ∀ x ∈ tabPairs A.grp L, ∃ r, S.G x.1 = some r ∧ x.2 < 8 ∧ pres (S.M.W r x.2) = true ∧ numb (S.M.W ((S.G x.1).getD 0) x.2) = numb (S.M.W r x.2) := by
    rintro ⟨g, k⟩ hx
    obtain ⟨hg, hk, ht⟩ := mem_tabPairs.1 hx
    obtain ⟨r, hr⟩ := hr g hg
    rw [hS.grp hI hr hk] at ht
    exact ⟨r, hr, hk, ht, by rw [hr]; rfl⟩
  have htab : ∀ x ∈ (tabPairs A.grp L).map (fun x => numb (S.M.W ((S.G x.1).getD 0) x.2)), ∃ g r k, S.G g = some r ∧ k < 8 ∧ pres (S.M.W r k) = true ∧ numb (S.M.W r k) = x := fun x hx => by
    obtain ⟨y, hy, rfl⟩ := List.mem_map.1 hx
    obtain ⟨r, h1, h2, h3, h4⟩ := hpair y hy
    exact ⟨y.1, r, y.2, h1, h2, h3, h4.symm⟩
  have hpage : ∀ f ∈ F, ∃ g r p, S.G g = some r ∧ p < 64 ∧ pres (S.M.ent r p) = true ∧ numb (S.M.ent r p) = f := fun f hf => by
    obtain ⟨g, p, b, hp, hg⟩ := (hFm f).1 hf
    obtain ⟨r, hr⟩ := pg_root hS hg
    obtain ⟨h1, h2, _⟩ := pg_frame hS hr hp hg
    exact ⟨g, r, p, hr, hp, h1, h2⟩
  have hnd : (L.map (fun g => (S.G g).getD 0) ++ ((tabPairs A.grp L).map (fun x => numb (S.M.W ((S.G x.1).getD 0) x.2)) ++ F)).Nodup := by
    rw [List.nodup_append, List.nodup_append]
    refine ⟨nodup_map_roots hI.ok.rootI hL (fun g hg => by rw [← hS.has]; exact (hm g).1 hg), ⟨nodup_map_on (nodup_tabPairs hL) (fun x hx y hy e => ?_), hF, fun x hx y hy e => ?_⟩, fun x hx y hy e => ?_⟩
    · obtain ⟨r, a1, a2, a3, a4⟩ := hpair x hx
      obtain ⟨r', b1, b2, b3, b4⟩ := hpair y hy
      rw [a4, b4] at e
      obtain ⟨q1, q2⟩ := hI.ok.tabI a1 a2 a3 b1 b2 b3 e
      exact Prod.ext q1 q2
    · subst e
      obtain ⟨g, r, k, a1, a2, a3, a4⟩ := htab x hx
      obtain ⟨g', r', p, b1, b2, b3, b4⟩ := hpage x hy
      have := (hI.ok.pageN b1 b2 b3).2.2
      rw [b4] at this
      exact this ⟨g, r, k, a1, a2, a3, a4⟩
    · subst e
      have h1 := hroot x hx
      rcases List.mem_append.1 hy with hy | hy
      · obtain ⟨g, r, k, a1, a2, a3, a4⟩ := htab x hy
        have := (hI.ok.tabN a1 a2 a3).2.2
        rw [a4] at this
        exact this h1
      · obtain ⟨g', r', p, b1, b2, b3, b4⟩ := hpage x hy
        have := (hI.ok.pageN b1 b2 b3).2.1
        rw [b4] at this
        exact this h1
  have h1 := free_updL (U := S.M.U) (n := S.M.n) hnd (fun r hr => by
    rcases List.mem_append.1 hr with hr | hr
    · obtain ⟨g, hg⟩ := hroot r hr
      have := hI.ok.rootN hg
      exact ⟨this.1, by omega⟩
    · rcases List.mem_append.1 hr with hr | hr
      · obtain ⟨g, r', k, a1, a2, a3, a4⟩ := htab r hr
        have := hI.ok.tabN a1 a2 a3
        rw [a4] at this
        exact ⟨this.1, by omega⟩
      · obtain ⟨g', r', p, b1, b2, b3, b4⟩ := hpage r hr
        have q1 := (hI.ok.pageN b1 b2 b3).1
        have q2 := hI.ok.pageU b1 b2 b3
        rw [b4] at q1 q2
        exact ⟨q1, by omega⟩)
  rw [freeTo_all (fun j hj => ?_), List.length_append, List.length_append, List.length_map, List.length_map] at h1
  · rw [hS.free, hS.n]
    exact h1.symm
  · by_cases e : j ∈ L.map (fun g => (S.G g).getD 0) ++ ((tabPairs A.grp L).map (fun x => numb (S.M.W ((S.G x.1).getD 0) x.2)) ++ F)
    · exact updL_mem e
    · rw [updL_ne e]
      simp only [List.mem_append, not_or] at e
      obtain ⟨e1, e2, e3⟩ := e
      have hr : ¬ IsRoot S.G j := by
        rintro ⟨g, hg⟩
        exact e1 (List.mem_map.2 ⟨g, (hm g).2 (by rw [hS.has, hg]; rfl), by rw [hg]; rfl⟩)
      have ht : ¬ IsTab S.M S.G j := by
        rintro ⟨g, r, k, q, hk, hx, e⟩
        refine e2 (List.mem_map.2 ⟨(g, k), mem_tabPairs.2 ⟨(hm g).2 (by rw [hS.has, q]; rfl), hk, by rw [hS.grp hI q hk]; exact hx⟩, ?_⟩)
        show numb (S.M.W ((S.G g).getD 0) k) = j
        rw [q]
        exact e
      rw [hI.ok.hU j hj hr ht]
      have : H j = [] := by
        apply List.eq_nil_iff_forall_not_mem.2
        rintro ⟨g, p⟩ hm'
        obtain ⟨hp', r, q, hx', hn⟩ := (hI.ok.hIn j g p).1 hm'
        refine e3 ((hFm j).2 ⟨g, p, wrib (S.M.ent r p), hp', ?_⟩)
        rw [hS.pg g r p q hp']
        simp [pgOf, hx', hn]
      rw [this]
      rfl

end Go.Proofs.Ytfcepnhknmbaaaa
