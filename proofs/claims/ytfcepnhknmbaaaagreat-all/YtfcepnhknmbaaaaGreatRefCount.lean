/- Frames counted: the free ones, the roots, the tables, the pages' are all; the document's count is the same. -/
import Derived.Test.YtfcepnhknmbaaaaGreatCountBase
import Derived.Test.YtfcepnhknmbaaaaGreatRefTopM
namespace Go.Proofs.YtfcepnhknmbaaaaGreat
open Go.RowKit Go.Deep

theorem nodup_map_on {α β : Type} {f : α → β} : ∀ {L : List α}, L.Nodup → (∀ a ∈ L, ∀ b ∈ L, f a = f b → a = b) → (L.map f).Nodup
  | [], _, _ => List.nodup_nil
  | a :: L, hn, h => by
    obtain ⟨h1, h2⟩ := List.nodup_cons.1 hn
    simp only [List.map_cons]
    refine List.nodup_cons.2 ⟨fun q => ?_, nodup_map_on h2 (fun x hx y hy => h x (by simp [hx]) y (by simp [hy]))⟩
    obtain ⟨b, hb, e⟩ := List.mem_map.1 q
    have : b = a := h b (by simp [hb]) a (by simp) e
    rw [this] at hb
    exact h1 hb

def tabPairs (t : Int → Nat → Bool) : List Int → List (Int × Nat)
  | [] => []
  | g :: L => ((List.range 8).filter (t g)).map (fun k => (g, k)) ++ tabPairs t L

theorem mem_tabPairs {t : Int → Nat → Bool} {g : Int} {k : Nat} : ∀ {L : List Int}, (g, k) ∈ tabPairs t L ↔ g ∈ L ∧ k < 8 ∧ t g k = true
  | [] => by simp [tabPairs]
  | a :: L => by
    simp only [tabPairs, List.mem_append, mem_tabPairs (L := L), List.mem_map, List.mem_filter, List.mem_range, Prod.mk.injEq, List.mem_cons]
    constructor
    · rintro (⟨k', ⟨h1, h2⟩, rfl, rfl⟩ | ⟨h1, h2⟩)
      · exact ⟨Or.inl rfl, h1, h2⟩
      · exact ⟨Or.inr h1, h2⟩
    · rintro ⟨rfl | h, h1, h2⟩
      · exact Or.inl ⟨k, ⟨h1, h2⟩, rfl, rfl⟩
      · exact Or.inr ⟨h, h1, h2⟩

theorem nodup_tabPairs {t : Int → Nat → Bool} : ∀ {L : List Int}, L.Nodup → (tabPairs t L).Nodup
  | [], _ => List.nodup_nil
  | a :: L, h => by
    obtain ⟨h1, h2⟩ := List.nodup_cons.1 h
    simp only [tabPairs]
    rw [List.nodup_append]
    refine ⟨nodup_map_on (List.nodup_range.filter _) (fun x _ y _ e => by injection e), nodup_tabPairs h2, fun x hx y hy e => ?_⟩
    subst e
    obtain ⟨k, _, rfl⟩ := List.mem_map.1 hx
    exact h1 (mem_tabPairs.1 hy).1

theorem count_all {S : MS} {H : Hs} {A : Abs} (hI : Inv S H) (hS : Sees S A) {L : List Int} (hL : L.Nodup) (hm : ∀ g, g ∈ L ↔ A.has g = true) {F : List Nat} (hF : F.Nodup) (hFm : ∀ f, f ∈ F ↔ ∃ g p b, p < 64 ∧ A.pg g p = some (f, b)) :
    A.free + (L.length + ((tabPairs A.grp L).length + F.length)) = A.n := by
  have hr : ∀ g ∈ L, ∃ r, S.G g = some r := fun g hg => hS.some ((hm g).1 hg)
  have hroot : ∀ x ∈ L.map (fun g => (S.G g).getD 0), IsRoot S.G x := fun x hx => by
    obtain ⟨g, hg, e⟩ := List.mem_map.1 hx
    obtain ⟨r, hr⟩ := hr g hg
    rw [hr] at e
    exact ⟨g, by rw [hr]; simpa using e⟩
  have hpair : ∀ x ∈ tabPairs A.grp L, ∃ r, S.G x.1 = some r ∧ x.2 < 8 ∧ pres (S.M.W r x.2) = true ∧ numb (S.M.W ((S.G x.1).getD 0) x.2) = numb (S.M.W r x.2) := by
    rintro ⟨g, k⟩ hx
    obtain ⟨hg, hk, ht⟩ := mem_tabPairs.1 hx
    obtain ⟨r, hr⟩ := hr g hg
    rw [hS.grp hI hr hk] at ht
    exact ⟨r, hr, hk, ht, by rw [hr]; rfl⟩
  have htab : ∀ x ∈ (tabPairs A.grp L).map (fun x => numb (S.M.W ((S.G x.1).getD 0) x.2)), ∃ g r k, S.G g = some r ∧ k < 8 ∧ pres (S.M.W r k) = true ∧ numb (S.M.W r k) = x := fun x hx => by
    obtain ⟨y, hy, rfl⟩ := List.mem_map.1 hx
    obtain ⟨r, h1, h2, h3, h4⟩ := hpair y hy
    exact ⟨y.1, r, y.2, h1, h2, h3, h4.symm⟩
  have hpage : ∀ f ∈ F, ∃ g r p, S.G g = some r ∧ p < 64 ∧ pres (S.M.ent r p) = true ∧ numb (S.M.ent r p) = f := fun f hf => by
    obtain ⟨g, p, b, hp, hg⟩ := (hFm f).1 hf
    obtain ⟨r, hr⟩ := pg_root hS hg
    obtain ⟨h1, h2, _⟩ := pg_frame hS hr hp hg
    exact ⟨g, r, p, hr, hp, h1, h2⟩
  have hnd : (L.map (fun g => (S.G g).getD 0) ++ ((tabPairs A.grp L).map (fun x => numb (S.M.W ((S.G x.1).getD 0) x.2)) ++ F)).Nodup := by
    rw [List.nodup_append, List.nodup_append]
    refine ⟨nodup_map_roots hI.ok.rootI hL (fun g hg => by rw [← hS.has]; exact (hm g).1 hg), ⟨nodup_map_on (nodup_tabPairs hL) (fun x hx y hy e => ?_), hF, fun x hx y hy e => ?_⟩, fun x hx y hy e => ?_⟩
    · obtain ⟨r, a1, a2, a3, a4⟩ := hpair x hx
      obtain ⟨r', b1, b2, b3, b4⟩ := hpair y hy
      rw [a4, b4] at e
      obtain ⟨q1, q2⟩ := hI.ok.tabI a1 a2 a3 b1 b2 b3 e
      exact Prod.ext q1 q2
    · subst e
      obtain ⟨g, r, k, a1, a2, a3, a4⟩ := htab x hx
      obtain ⟨g', r', p, b1, b2, b3, b4⟩ := hpage x hy
      have := (hI.ok.pageN b1 b2 b3).2.2
      rw [b4] at this
      exact this ⟨g, r, k, a1, a2, a3, a4⟩
    · subst e
      have h1 := hroot x hx
      rcases List.mem_append.1 hy with hy | hy
      · obtain ⟨g, r, k, a1, a2, a3, a4⟩ := htab x hy
        have := (hI.ok.tabN a1 a2 a3).2.2
        rw [a4] at this
        exact this h1
      · obtain ⟨g', r', p, b1, b2, b3, b4⟩ := hpage x hy
        have := (hI.ok.pageN b1 b2 b3).2.1
        rw [b4] at this
        exact this h1
  have h1 := free_updL (U := S.M.U) (n := S.M.n) hnd (fun r hr => by
    rcases List.mem_append.1 hr with hr | hr
    · obtain ⟨g, hg⟩ := hroot r hr
      have := hI.ok.rootN hg
      exact ⟨this.1, by omega⟩
    · rcases List.mem_append.1 hr with hr | hr
      · obtain ⟨g, r', k, a1, a2, a3, a4⟩ := htab r hr
        have := hI.ok.tabN a1 a2 a3
        rw [a4] at this
        exact ⟨this.1, by omega⟩
      · obtain ⟨g', r', p, b1, b2, b3, b4⟩ := hpage r hr
        have q1 := (hI.ok.pageN b1 b2 b3).1
        have q2 := hI.ok.pageU b1 b2 b3
        rw [b4] at q1 q2
        exact ⟨q1, by omega⟩)
  rw [freeTo_all (fun j hj => ?_), List.length_append, List.length_append, List.length_map, List.length_map] at h1
  · rw [hS.free, hS.n]
    exact h1.symm
  · by_cases e : j ∈ L.map (fun g => (S.G g).getD 0) ++ ((tabPairs A.grp L).map (fun x => numb (S.M.W ((S.G x.1).getD 0) x.2)) ++ F)
    · exact updL_mem e
    · rw [updL_ne e]
      simp only [List.mem_append, not_or] at e
      obtain ⟨e1, e2, e3⟩ := e
      have hr : ¬ IsRoot S.G j := by
        rintro ⟨g, hg⟩
        exact e1 (List.mem_map.2 ⟨g, (hm g).2 (by rw [hS.has, hg]; rfl), by rw [hg]; rfl⟩)
      have ht : ¬ IsTab S.M S.G j := by
        rintro ⟨g, r, k, q, hk, hx, e⟩
        refine e2 (List.mem_map.2 ⟨(g, k), mem_tabPairs.2 ⟨(hm g).2 (by rw [hS.has, q]; rfl), hk, by rw [hS.grp hI q hk]; exact hx⟩, ?_⟩)
        show numb (S.M.W ((S.G g).getD 0) k) = j
        rw [q]
        exact e
      rw [hI.ok.hU j hj hr ht]
      have : H j = [] := by
        apply List.eq_nil_iff_forall_not_mem.2
        rintro ⟨g, p⟩ hm'
        obtain ⟨hp', r, q, hx', hn⟩ := (hI.ok.hIn j g p).1 hm'
        refine e3 ((hFm j).2 ⟨g, p, wrib (S.M.ent r p), hp', ?_⟩)
        rw [hS.pg g r p q hp']
        simp [pgOf, hx', hn]
      rw [this]
      rfl

/-! What the document's count has seen. -/
theorem mem_addSeen {Id : Nat → Int} {seen : List Int} {o : Option Nat} {x : Int} : x ∈ addSeen Id seen o ↔ x ∈ seen ∨ ∃ b, o = some b ∧ Id b = x := by
  cases o with
  | none => simp [addSeen]
  | some b =>
    simp only [addSeen]
    split
    · rename_i h
      rw [List.contains_iff_mem] at h
      constructor
      · exact Or.inl
      · rintro (h1 | ⟨b', e, rfl⟩)
        · exact h1
        · injection e with e; subst e; exact h
    · rw [List.mem_append, List.mem_singleton]
      constructor
      · rintro (h1 | rfl)
        · exact Or.inl h1
        · exact Or.inr ⟨b, rfl, rfl⟩
      · rintro (h1 | ⟨b', e, rfl⟩)
        · exact Or.inl h1
        · injection e with e; subst e; exact Or.inr rfl
theorem nodup_addSeen {Id : Nat → Int} {seen : List Int} {o : Option Nat} (h : seen.Nodup) : (addSeen Id seen o).Nodup := by
  cases o with
  | none => exact h
  | some b =>
    simp only [addSeen]
    split
    · exact h
    · rename_i q
      rw [List.contains_iff_mem] at q
      rw [List.nodup_append]
      refine ⟨h, by simp, fun a ha b' hb e => ?_⟩
      rw [List.mem_singleton] at hb
      subst hb
      subst e
      exact q ha
theorem mem_seenTo {Id : Nat → Int} {g : RG} {seen : List Int} {x : Int} : ∀ {k : Nat}, x ∈ seenTo Id g seen k ↔ x ∈ seen ∨ ∃ p, p < k ∧ ∃ b, g.P p = some b ∧ Id b = x
  | 0 => by simp [seenTo]
  | k + 1 => by
    simp only [seenTo, mem_addSeen, mem_seenTo (k := k)]
    constructor
    · rintro ((h | ⟨p, hp, h⟩) | h)
      · exact Or.inl h
      · exact Or.inr ⟨p, by omega, h⟩
      · exact Or.inr ⟨k, by omega, h⟩
    · rintro (h | ⟨p, hp, h⟩)
      · exact Or.inl (Or.inl h)
      · by_cases e : p = k
        · subst e; exact Or.inr h
        · exact Or.inl (Or.inr ⟨p, by omega, h⟩)
theorem nodup_seenTo {Id : Nat → Int} {g : RG} {seen : List Int} (h : seen.Nodup) : ∀ k, (seenTo Id g seen k).Nodup
  | 0 => h
  | k + 1 => nodup_addSeen (nodup_seenTo h k)
theorem mem_seens {Id : Nat → Int} {x : Int} : ∀ {L : List RG} {s : List Int}, x ∈ L.foldl (fun s g => seenTo Id g s 64) s ↔ x ∈ s ∨ ∃ g, g ∈ L ∧ ∃ p, p < 64 ∧ ∃ b, g.P p = some b ∧ Id b = x
  | [], s => by simp
  | g :: L, s => by
    simp only [List.foldl_cons, mem_seens (L := L), mem_seenTo, List.mem_cons]
    constructor
    · rintro ((h | h) | ⟨g', hg, h⟩)
      · exact Or.inl h
      · exact Or.inr ⟨g, Or.inl rfl, h⟩
      · exact Or.inr ⟨g', Or.inr hg, h⟩
    · rintro (h | ⟨g', rfl | hg, h⟩)
      · exact Or.inl (Or.inl h)
      · exact Or.inl (Or.inr h)
      · exact Or.inr ⟨g', hg, h⟩
theorem nodup_seens {Id : Nat → Int} : ∀ {L : List RG} {s : List Int}, s.Nodup → (L.foldl (fun s g => seenTo Id g s 64) s).Nodup
  | [], _, h => h
  | g :: L, s, h => by
    rw [List.foldl_cons]
    exact nodup_seens (nodup_seenTo h 64)
theorem mem_seenL {R : RS} {x : Int} : x ∈ seenL R.Id R.L ↔ ∃ b, R.isPg b ∧ R.Id b = x := by
  simp only [seenL, mem_seens, List.not_mem_nil, false_or, RS.isPg]
  constructor
  · rintro ⟨g, hg, p, hp, b, h, e⟩
    exact ⟨b, ⟨g, hg, p, hp, h⟩, e⟩
  · rintro ⟨b, ⟨g, hg, p, hp, h⟩, e⟩
    exact ⟨g, hg, p, hp, b, h, e⟩
theorem nodup_seenL (R : RS) : (seenL R.Id R.L).Nodup := nodup_seens List.nodup_nil

theorem anyTo_iff {g : RG} {k : Nat} : ∀ {j : Nat}, anyTo g k j = true ↔ ∃ i, i < j ∧ (g.P (8 * k + i)).isSome = true
  | 0 => by simp [anyTo]
  | j + 1 => by
    simp only [anyTo, Bool.or_eq_true, anyTo_iff (j := j)]
    constructor
    · rintro (⟨i, hi, h⟩ | h)
      · exact ⟨i, by omega, h⟩
      · exact ⟨j, by omega, h⟩
    · rintro ⟨i, hi, h⟩
      by_cases e : i = j
      · subst e; exact Or.inr h
      · exact Or.inl ⟨i, by omega, h⟩

theorem rtabs_len {g : RG} {t : Nat → Bool} (h : ∀ k, k < 8 → g.grp k = t k) : ∀ j, j ≤ 8 → ((List.range j).filter t).length = rtabs g j
  | 0, _ => rfl
  | j + 1, hj => by
    rw [List.range_succ, List.filter_append, List.length_append, rtabs_len h j (by omega)]
    simp only [rtabs, h j (by omega)]
    cases e : t j <;> simp [e]

/-- The two machines agree: psi tells the frame of a page's number. -/
structure Agree (A : Abs) (R : RS) (psi : Int → Nat) : Prop where
  n : A.n = R.n
  last : A.last = R.last
  cnt : A.cnt = R.L.length
  nd : (R.L.map fun g => g.N).Nodup
  pos : ∀ G ∈ R.L, 1 ≤ G.N ∧ G.N ≤ R.last
  has : ∀ g, A.has g = true ↔ ∃ G ∈ R.L, G.N = g
  pg : ∀ G ∈ R.L, ∀ p, p < 64 → A.pg G.N p = (G.P p).map fun b => (psi (R.Id b), G.Wr p)
  idI : ∀ b b', R.isPg b → R.isPg b' → R.Id b = R.Id b' → b = b'
  idB : ∀ b, R.isPg b → R.Id b ≤ R.made
  psI : ∀ b b', R.isPg b → R.isPg b' → psi (R.Id b) = psi (R.Id b') → b = b'
  wd : ∀ b, R.isPg b → ∀ k, k < 8 → A.wd (psi (R.Id b)) k = R.Wd b k
  rt : ∀ G ∈ R.L, A.rt G.N = G.root ∧ -1 ≤ G.root ∧ G.root < 64

theorem Agree.grp {A : Abs} {R : RS} {psi : Int → Nat} (h : Agree A R psi) {G : RG} (hG : G ∈ R.L) {k : Nat} (hk : k < 8) : G.grp k = A.grp G.N k := by
  rw [Bool.eq_iff_iff, RG.grp, anyTo_iff, Abs.grp, List.any_eq_true]
  constructor
  · rintro ⟨i, hi, e⟩
    refine ⟨i, List.mem_range.2 hi, ?_⟩
    rw [h.pg G hG _ (by omega), Option.isSome_map]
    exact e
  · rintro ⟨i, hi, e⟩
    have hi := List.mem_range.1 hi
    rw [h.pg G hG _ (by omega), Option.isSome_map] at e
    exact ⟨i, hi, e⟩

theorem len_tabs {A : Abs} {R : RS} {psi : Int → Nat} (h : Agree A R psi) : ∀ {L : List RG}, (∀ G ∈ L, G ∈ R.L) → (L.map fun g => g.N).length + (tabPairs A.grp (L.map fun g => g.N)).length = tabsL L
  | [], _ => rfl
  | G :: L, hm => by
    have ih := len_tabs h (L := L) (fun x hx => hm x (by simp [hx]))
    have h1 := rtabs_len (g := G) (t := A.grp G.N) (fun k hk => h.grp (hm G (by simp)) hk) 8 (Nat.le_refl _)
    simp only [tabsL, List.map_cons, List.sum_cons, List.length_cons, tabPairs, List.length_append, List.length_map, RG.tabs] at ih ⊢
    omega

theorem Agree.free {w : World} {mb : Nat} {own : Nat → Prop} {A : Abs} {R : RS} {psi : Int → Nat} (h : Agree A R psi) (hr : Rep w mb own A) : R.free = A.free := by
  obtain ⟨S, H, _, hI, hS, _⟩ := hr
  have hc := count_all hI hS (L := R.L.map fun g => g.N) h.nd (fun g => by
    rw [h.has, List.mem_map]) (F := (seenL R.Id R.L).map psi) (nodup_map_on (nodup_seenL R) (fun x hx y hy e => by
      obtain ⟨b, hb, rfl⟩ := mem_seenL.1 hx
      obtain ⟨b', hb', rfl⟩ := mem_seenL.1 hy
      rw [h.psI b b' hb hb' e])) (fun f => by
      rw [List.mem_map]
      constructor
      · rintro ⟨x, hx, rfl⟩
        obtain ⟨b, ⟨G, hG, p, hp, e⟩, rfl⟩ := mem_seenL.1 hx
        exact ⟨G.N, p, G.Wr p, hp, by rw [h.pg G hG p hp, e]; rfl⟩
      · rintro ⟨g, p, b, hp, e⟩
        obtain ⟨r, hr⟩ := pg_root hS e
        obtain ⟨G, hG, rfl⟩ := (h.has g).1 (by rw [hS.has, hr]; rfl)
        rw [h.pg G hG p hp] at e
        cases hP : G.P p with
        | none => rw [hP] at e; cases e
        | some b' =>
          rw [hP] at e
          injection e with e
          injection e with e1 e2
          exact ⟨R.Id b', mem_seenL.2 ⟨b', ⟨G, hG, p, hp, hP⟩, rfl⟩, e1⟩)
  have ht := len_tabs h (L := R.L) (fun _ hx => hx)
  rw [List.length_map (f := psi)] at hc
  rw [h.n] at hc
  simp only [RS.free]
  omega
end Go.Proofs.YtfcepnhknmbaaaaGreat
