/- That Map, Unmap, Write and Destroy keep the invariant; what each does to the pages that guests see, and to the number of free frames. -/
import Derived.Test.YtfcepnhknmbaaaaGreatInv
namespace Go.Proofs.YtfcepnhknmbaaaaGreat

/-- Pages other than one are as they were. -/
structure Others (M M' : Mm) (G : Gs) (r p : Nat) : Prop where
  pr : ∀ g' r' p', G g' = some r' → p' < 64 → ¬ (r' = r ∧ p' = p) → pres (M'.ent r' p') = pres (M.ent r' p')
  en : ∀ g' r' p', G g' = some r' → p' < 64 → ¬ (r' = r ∧ p' = p) → pres (M.ent r' p') = true → M'.ent r' p' = M.ent r' p'
  wd : ∀ g' r' p', G g' = some r' → p' < 64 → pres (M.ent r' p') = true → ∀ k, M'.W (numb (M.ent r' p')) k = M.W (numb (M.ent r' p')) k

/-- A page has come. -/
structure Came (M M' : Mm) (G : Gs) (H : Hs) (g : Int) (r p f : Nat) (b : Bool) : Prop where
  n : M'.n = M.n
  ok : Ok M' G (addH H f (g, p))
  full : Full M' G
  en : M'.ent r p = entryOf f b
  oth : Others M M' G r p
  fn : f < M.n
  zero : ∀ k, M'.W f k = 0
  new : ∀ g' r' p', G g' = some r' → p' < 64 → pres (M.ent r' p') = true → numb (M.ent r' p') ≠ f

theorem came_had {M : Mm} {G : Gs} {H : Hs} (h : Ok M G H) (hfu : Full M G) {g : Int} {r p f : Nat} (b : Bool) (hg : G g = some r) (hp : p < 64) (ha : pres (M.ent r p) = false) (hx : pres (M.tbl r p) = true) (hf : M.first = some f) :
    Came M ((M.take f).entered r p f b) G H g r p f b ∧ ((M.take f).entered r p f b).free + 1 = M.free := by
  obtain ⟨hfn, hu⟩ := first_lt hf
  have hle := h.le
  have hrf := h.root_ne_free hu hg
  have htb : (M.take f).tbl r p = M.W r (p / 8) := by
    show (M.take f).W r (p / 8) = _
    rw [addRt_W, if_neg hrf]
  have he : (M.take f).entered r p f b = addPg M (numb (M.W r (p / 8))) (p % 8) f b := by
    simp only [Mm.entered, htb, addPg]
  have hk8 : p / 8 < 8 := by omega
  have htf : numb (M.W r (p / 8)) ≠ f := h.tab_ne_free hu hg hk8 hx
  obtain ⟨hE, hO⟩ := h.addPage (b := b) hg hp hx ha hfn hu
  have hWr : ∀ g' r' j, G g' = some r' → (addPg M (numb (M.W r (p / 8))) (p % 8) f b).W r' j = M.W r' j := fun g' r' j hg' => by
    rw [addPg_W, if_neg (fun e => h.tab_ne_root hg hk8 hx hg' e.1.symm), if_neg (h.root_ne_free hu hg')]
  rw [he]
  refine ⟨⟨rfl, hO, ?_, ?_, ⟨?_, ?_, ?_⟩, hfn, ?_, ?_⟩, ?_⟩
  · intro g' r' k hg' hk hx'
    rw [hWr g' r' k hg'] at hx' ⊢
    obtain ⟨i, hi, hy⟩ := hfu g' r' k hg' hk hx'
    refine ⟨i, hi, ?_⟩
    rw [addPg_W]
    split
    · exact pres_entryOf _ _
    · rw [if_neg (h.tab_ne_free hu hg' hk hx')]
      exact hy
  · rw [hE g r p hg hp, if_pos ⟨rfl, rfl⟩]
  · intro g' r' p' hg' hp' hne
    rw [hE g' r' p' hg' hp', if_neg hne]
  · intro g' r' p' hg' hp' hne _
    rw [hE g' r' p' hg' hp', if_neg hne]
  · intro g' r' p' hg' hp' hx' k
    rw [addPg_W, if_neg (fun e => (h.pageN hg' hp' hx').2.2 ⟨g, r, p / 8, hg, hk8, hx, e.1.symm⟩), if_neg (h.free_page hu hg' hp' hx')]
  · intro k
    rw [addPg_W, if_neg (fun e => htf e.1.symm), if_pos rfl]
  · intro g' r' p' hg' hp' hx'
    exact h.free_page hu hg' hp' hx'
  · exact take_free hfn hu

theorem came_new {M : Mm} {G : Gs} {H : Hs} (h : Ok M G H) (hfu : Full M G) {g : Int} {r p f t : Nat} (b : Bool) (hg : G g = some r) (hp : p < 64) (hx : pres (M.tbl r p) = false) (hf : M.first = some f) (ht : (M.take f).first = some t) :
    Came M (((M.take f).tabled r p t).entered r p f b) G H g r p f b ∧ (((M.take f).tabled r p t).entered r p f b).free + 2 = M.free := by
  obtain ⟨hfn, hu⟩ := first_lt hf
  obtain ⟨htn, htu⟩ := first_lt ht
  have htn : t < M.n := htn
  have hle := h.le
  have hk8 : p / 8 < 8 := by omega
  have htf : t ≠ f := fun e => by
    rw [e, addRt_U, if_pos rfl] at htu
    omega
  have htu' : M.U t = 0 := by
    rw [addRt_U, if_neg htf] at htu
    exact htu
  have hrf := h.root_ne_free hu hg
  have hrt := h.root_ne_free htu' hg
  have he : ((M.take f).tabled r p t).entered r p f b = addPg (addTb M r (p / 8) t) t (p % 8) f b := by
    have e1 : numb (((M.take f).tabled r p t).tbl r p) = t := by rw [tabled_tbl, numb_entryOf t true (by omega)]
    have e0 : ((M.take f).tabled r p t).entered r p f b = ((M.take f).tabled r p t).setW t (p % 8) (entryOf f b) := by
      unfold Mm.entered
      rw [e1]
    have eW : ∀ j l, (((M.take f).tabled r p t).entered r p f b).W j l = (addPg (addTb M r (p / 8) t) t (p % 8) f b).W j l := fun j l => by
      rw [addPg_W, addTb_W, e0]
      show (if j = t ∧ l = p % 8 then entryOf f b else if j = r ∧ l = p / 8 then entryOf t true else ((M.take f).take t).W j l) = _
      by_cases a1 : j = t ∧ l = p % 8
      · rw [if_pos a1, if_pos a1]
      · rw [if_neg a1, if_neg a1]
        by_cases a2 : j = f
        · rw [if_pos a2, if_neg (fun e => hrf (by rw [← e.1, a2])), addRt_W]
          split
          · rfl
          · rw [addRt_W, if_pos a2]
        · rw [if_neg a2, addRt_W, addRt_W, if_neg a2]
    have eU : ∀ j, (((M.take f).tabled r p t).entered r p f b).U j = (addPg (addTb M r (p / 8) t) t (p % 8) f b).U j := fun j => by
      rw [addPg_U, addTb_U]
      show ((M.take f).take t).U j = _
      rw [addRt_U, addRt_U]
      by_cases a1 : j = t
      · rw [if_pos a1, if_neg (by omega), if_pos a1]
      · rw [if_neg a1, if_neg a1]
    have eW' := funext fun j => funext (eW j)
    have eU' := funext eU
    show Mm.mk _ (((M.take f).tabled r p t).entered r p f b).W (((M.take f).tabled r p t).entered r p f b).U = Mm.mk _ (addPg (addTb M r (p / 8) t) t (p % 8) f b).W (addPg (addTb M r (p / 8) t) t (p % 8) f b).U
    rw [eW', eU']
    rfl
  obtain ⟨hE1, hO1⟩ := h.addTab hg hk8 hx htn htu'
  have hWt : (addTb M r (p / 8) t).W r (p / 8) = entryOf t true := by rw [addTb_W, if_pos ⟨rfl, rfl⟩]
  have hnt : numb ((addTb M r (p / 8) t).W r (p / 8)) = t := by rw [hWt, numb_entryOf t true (by omega)]
  have hu1 : (addTb M r (p / 8) t).U f = 0 := by rw [addTb_U, if_neg (fun e => htf e.symm)]; exact hu
  have ha1 : pres ((addTb M r (p / 8) t).ent r p) = false := by rw [hE1 g r p hg hp, if_pos ⟨rfl, rfl⟩]; rfl
  have hx1 : pres ((addTb M r (p / 8) t).W r (p / 8)) = true := by rw [hWt]; exact pres_entryOf _ _
  obtain ⟨hE2, hO2⟩ := hO1.addPage (b := b) hg hp hx1 ha1 hfn hu1
  rw [hnt] at hE2 hO2
  have hWr : ∀ g' r' j, G g' = some r' → (addPg (addTb M r (p / 8) t) t (p % 8) f b).W r' j = if r' = r ∧ j = p / 8 then entryOf t true else M.W r' j := fun g' r' j hg' => by
    rw [addPg_W, if_neg (fun e => h.root_ne_free htu' hg' e.1), if_neg (h.root_ne_free hu hg'), addTb_W]
    split
    · rfl
    · rw [if_neg (h.root_ne_free htu' hg')]
  have habs : ∀ p', p' / 8 = p / 8 → pres (M.ent r p') = false := fun p' e => by
    have : pres (M.W r (p' / 8)) = false := by rw [e]; exact hx
    rw [ent_abs this]
    exact this
  have hpr : ∀ g' r' p', G g' = some r' → p' < 64 → ¬ (r' = r ∧ p' = p) → (pres (M.ent r' p') = true → (addPg (addTb M r (p / 8) t) t (p % 8) f b).ent r' p' = M.ent r' p') ∧ pres ((addPg (addTb M r (p / 8) t) t (p % 8) f b).ent r' p') = pres (M.ent r' p') := fun g' r' p' hg' hp' hne => by
    rw [hE2 g' r' p' hg' hp', if_neg hne, hE1 g' r' p' hg' hp']
    by_cases e : r' = r ∧ p' / 8 = p / 8
    · rw [if_pos e]
      have := habs p' e.2
      rw [e.1, this]
      exact ⟨fun q => (by cases q), rfl⟩
    · rw [if_neg e]
      exact ⟨fun _ => rfl, rfl⟩
  rw [he]
  refine ⟨⟨rfl, hO2, ?_, ?_, ⟨?_, ?_, ?_⟩, hfn, ?_, ?_⟩, ?_⟩
  · intro g' r' k hg' hk hx'
    rw [hWr g' r' k hg'] at hx' ⊢
    by_cases e : r' = r ∧ k = p / 8
    · rw [if_pos e, numb_entryOf t true (by omega)]
      refine ⟨p % 8, by omega, ?_⟩
      rw [addPg_W, if_pos ⟨rfl, rfl⟩]
      exact pres_entryOf _ _
    · rw [if_neg e] at hx' ⊢
      obtain ⟨i, hi, hy⟩ := hfu g' r' k hg' hk hx'
      refine ⟨i, hi, ?_⟩
      have h1 := h.tab_ne_free htu' hg' hk hx'
      have h2 := h.tab_ne_free hu hg' hk hx'
      have h3 := h.tab_ne_root hg' hk hx' hg
      rw [addPg_W, if_neg (fun q => h1 q.1), if_neg h2, addTb_W, if_neg (fun q => h3 q.1), if_neg h1]
      exact hy
  · rw [hE2 g r p hg hp, if_pos ⟨rfl, rfl⟩]
  · intro g' r' p' hg' hp' hne
    exact (hpr g' r' p' hg' hp' hne).2
  · intro g' r' p' hg' hp' hne hx'
    exact (hpr g' r' p' hg' hp' hne).1 hx'
  · intro g' r' p' hg' hp' hx' k
    have h1 := h.free_page htu' hg' hp' hx'
    have h2 := h.free_page hu hg' hp' hx'
    have h3 : numb (M.ent r' p') ≠ r := fun e => (h.pageN hg' hp' hx').2.1 ⟨g, by rw [hg, e]⟩
    rw [addPg_W, if_neg (fun q => h1 q.1), if_neg h2, addTb_W, if_neg (fun q => h3 q.1), if_neg h1]
  · intro k
    rw [addPg_W, if_neg (fun e => htf e.1.symm), if_pos rfl]
  · intro g' r' p' hg' hp' hx'
    exact h.free_page hu hg' hp' hx'
  · have e1 := take_free hfn hu
    have e2 := take_free (M := M.take f) (i := t) htn htu
    have e3 : (addPg (addTb M r (p / 8) t) t (p % 8) f b).free = ((M.take f).take t).free := by rw [← he]; rfl
    omega

/-- A page has gone. -/
structure Went (M M' : Mm) (G : Gs) (H : Hs) (g : Int) (r p : Nat) : Prop where
  n : M'.n = M.n
  ok : Ok M' G (dropH H (numb (M.ent r p)) (g, p))
  full : Full M' G
  abs : pres (M'.ent r p) = false
  oth : Others M M' G r p
  freeMore : (∃ p', p' < 64 ∧ p' / 8 = p / 8 ∧ p' ≠ p ∧ pres (M.ent r p') = true) → M'.free = M.free + (if M.U (numb (M.ent r p)) = 1 then 1 else 0)
  freeLast : (¬ ∃ p', p' < 64 ∧ p' / 8 = p / 8 ∧ p' ≠ p ∧ pres (M.ent r p') = true) → M'.free = M.free + (if M.U (numb (M.ent r p)) = 1 then 1 else 0) + 1

theorem went {M : Mm} {G : Gs} {H : Hs} (h : Ok M G H) (hfu : Full M G) {g : Int} {r p : Nat} (hg : G g = some r) (hp : p < 64) (hx : pres (M.ent r p) = true) : Went M (M.remove r p) G H g r p := by
  have hk8 : p / 8 < 8 := by omega
  have hxt : pres (M.W r (p / 8)) = true := pres_tbl hx
  obtain ⟨htn, htu, htr⟩ := h.tabN hg hk8 hxt
  obtain ⟨hfn, hfr, hft⟩ := h.pageN hg hp hx
  have hfU := h.pageU hg hp hx
  have hne : numb (M.ent r p) ≠ numb (M.W r (p / 8)) := fun e => hft ⟨g, r, p / 8, hg, hk8, hxt, e.symm⟩
  have htr' : numb (M.W r (p / 8)) ≠ r := h.tab_ne_root hg hk8 hxt hg
  obtain ⟨hE1, hO1⟩ := h.dropPage hg hp hx
  have hrem : M.removed r p = dropPg M (numb (M.W r (p / 8))) (p % 8) (numb (M.ent r p)) := rfl
  have hf1 : (dropPg M (numb (M.W r (p / 8))) (p % 8) (numb (M.ent r p))).free = M.free + (if M.U (numb (M.ent r p)) = 1 then 1 else 0) := unuse_free hfn hfU
  have hW1 : ∀ g' r' j, G g' = some r' → (dropPg M (numb (M.W r (p / 8))) (p % 8) (numb (M.ent r p))).W r' j = M.W r' j := fun g' r' j hg' => by
    rw [dropPg_W, if_neg (fun e => h.tab_ne_root hg hk8 hxt hg' e.1.symm)]
  have hrest : (∃ p', p' < 64 ∧ p' / 8 = p / 8 ∧ p' ≠ p ∧ pres (M.ent r p') = true) ↔ ∃ i, i < 8 ∧ pres ((dropPg M (numb (M.W r (p / 8))) (p % 8) (numb (M.ent r p))).W (numb (M.W r (p / 8))) i) = true := by
    constructor
    · rintro ⟨p', a1, a2, a3, a4⟩
      refine ⟨p' % 8, by omega, ?_⟩
      rw [dropPg_W, if_neg (fun e => a3 (by omega))]
      rw [ent_pres (by rw [a2]; exact hxt), a2] at a4
      exact a4
    · rintro ⟨i, hi, hy⟩
      rw [dropPg_W] at hy
      split at hy
      · cases hy
      · rename_i e
        have e1 : (8 * (p / 8) + i) / 8 = p / 8 := by omega
        have e2 : (8 * (p / 8) + i) % 8 = i := by omega
        refine ⟨8 * (p / 8) + i, by omega, e1, fun q => e ⟨rfl, by omega⟩, ?_⟩
        rw [ent_pres (by rw [e1]; exact hxt), e1, e2]
        exact hy
  have hwd1 : ∀ g' r' p', G g' = some r' → p' < 64 → pres (M.ent r' p') = true → ∀ k, (dropPg M (numb (M.W r (p / 8))) (p % 8) (numb (M.ent r p))).W (numb (M.ent r' p')) k = M.W (numb (M.ent r' p')) k := fun g' r' p' hg' hp' hx' k => by
    rw [dropPg_W, if_neg (fun e => (h.pageN hg' hp' hx').2.2 ⟨g, r, p / 8, hg, hk8, hxt, e.1.symm⟩)]
  by_cases hem : (M.removed r p).empty (numb (M.tbl r p)) = true
  · have hrm : M.remove r p = dropTb (dropPg M (numb (M.W r (p / 8))) (p % 8) (numb (M.ent r p))) r (p / 8) (numb (M.W r (p / 8))) := by
      simp only [Mm.remove, hx, if_true]
      rw [if_pos hem]
      rfl
    have hnone := (empty_iff _ _).1 hem
    rw [hrem] at hnone
    have hWt := hW1 g r (p / 8) hg
    have hxt1 : pres ((dropPg M (numb (M.W r (p / 8))) (p % 8) (numb (M.ent r p))).W r (p / 8)) = true := by rw [hWt]; exact hxt
    have h2 := hO1.dropTab hg hk8 hxt1 (by rw [hWt]; exact hnone)
    rw [hWt] at h2
    obtain ⟨hE2, hO2⟩ := h2
    rw [hrm]
    have hno : ¬ ∃ p', p' < 64 ∧ p' / 8 = p / 8 ∧ p' ≠ p ∧ pres (M.ent r p') = true := fun q => by
      obtain ⟨i, hi, hy⟩ := hrest.1 q
      have := hnone i hi
      simp only [Mm.tbl] at this
      rw [hy] at this
      cases this
    refine ⟨rfl, hO2, ?_, ?_, ⟨?_, ?_, ?_⟩, fun q => absurd q hno, fun _ => ?_⟩
    · intro g' r' k hg' hk hx'
      rw [dropTb_W] at hx'
      split at hx'
      · cases hx'
      · rename_i e
        have hWk : (dropTb (dropPg M (numb (M.W r (p / 8))) (p % 8) (numb (M.ent r p))) r (p / 8) (numb (M.W r (p / 8)))).W r' k = M.W r' k := by rw [dropTb_W, if_neg e, hW1 g' r' k hg']
        rw [hW1 g' r' k hg'] at hx'
        obtain ⟨i, hi, hy⟩ := hfu g' r' k hg' hk hx'
        refine ⟨i, hi, ?_⟩
        rw [hWk, dropTb_W, if_neg (fun q => h.tab_ne_root hg' hk hx' hg q.1), dropPg_W, if_neg]
        · exact hy
        · rintro ⟨q1, q2⟩
          obtain ⟨e3, e4⟩ := h.tabI hg' hk hx' hg hk8 hxt q1
          subst e3
          rw [hg] at hg'
          injection hg' with hg'
          exact e ⟨hg'.symm, e4⟩
    · rw [hE2 g r p hg hp, if_pos ⟨rfl, rfl⟩]
      rfl
    · intro g' r' p' hg' hp' hnq
      rw [hE2 g' r' p' hg' hp', hE1 g' r' p' hg' hp', if_neg hnq]
      split
      · rename_i e
        have : ¬ pres (M.ent r' p') = true := fun q => hno ⟨p', hp', e.2, fun q2 => hnq ⟨e.1, q2⟩, by rw [← e.1]; exact q⟩
        simp only [Bool.not_eq_true] at this
        rw [this]
        rfl
      · rfl
    · intro g' r' p' hg' hp' hnq hx'
      rw [hE2 g' r' p' hg' hp', hE1 g' r' p' hg' hp', if_neg hnq]
      split
      · rename_i e
        exact absurd ⟨p', hp', e.2, fun q2 => hnq ⟨e.1, q2⟩, by rw [← e.1]; exact hx'⟩ hno
      · rfl
    · intro g' r' p' hg' hp' hx' k
      rw [dropTb_W, if_neg (fun q => (h.pageN hg' hp' hx').2.1 ⟨g, by rw [hg, q.1]⟩)]
      exact hwd1 g' r' p' hg' hp' hx' k
    · have hUt : (dropPg M (numb (M.W r (p / 8))) (p % 8) (numb (M.ent r p))).U (numb (M.W r (p / 8))) = 1 := by
        rw [dropPg_U, if_neg (fun e => hne e.symm)]
        exact htu
      have hf2 : (dropTb (dropPg M (numb (M.W r (p / 8))) (p % 8) (numb (M.ent r p))) r (p / 8) (numb (M.W r (p / 8)))).free = (dropPg M (numb (M.W r (p / 8))) (p % 8) (numb (M.ent r p))).free + (if (dropPg M (numb (M.W r (p / 8))) (p % 8) (numb (M.ent r p))).U (numb (M.W r (p / 8))) = 1 then 1 else 0) := unuse_free (M := dropPg M (numb (M.W r (p / 8))) (p % 8) (numb (M.ent r p))) (f := numb (M.W r (p / 8))) htn (by omega)
      rw [hf2, hf1, if_pos hUt]
  · have hrm : M.remove r p = dropPg M (numb (M.W r (p / 8))) (p % 8) (numb (M.ent r p)) := by
      simp only [Mm.remove, hx, if_true]
      rw [if_neg hem]
      rfl
    have hyes : ∃ i, i < 8 ∧ pres ((dropPg M (numb (M.W r (p / 8))) (p % 8) (numb (M.ent r p))).W (numb (M.W r (p / 8))) i) = true := by
      apply Classical.byContradiction
      intro q
      apply hem
      rw [empty_iff]
      intro i hi
      cases e : pres ((M.removed r p).W (numb (M.tbl r p)) i) with
      | false => rfl
      | true => exact absurd ⟨i, hi, e⟩ q
    rw [hrm]
    refine ⟨rfl, hO1, ?_, ?_, ⟨?_, ?_, ?_⟩, fun _ => hf1, fun q => absurd (hrest.2 hyes) q⟩
    · intro g' r' k hg' hk hx'
      rw [hW1 g' r' k hg'] at hx' ⊢
      by_cases e : numb (M.W r' k) = numb (M.W r (p / 8))
      · rw [e]
        exact hyes
      · obtain ⟨i, hi, hy⟩ := hfu g' r' k hg' hk hx'
        refine ⟨i, hi, ?_⟩
        rw [dropPg_W, if_neg (fun q => e q.1)]
        exact hy
    · rw [hE1 g r p hg hp, if_pos ⟨rfl, rfl⟩]
      rfl
    · intro g' r' p' hg' hp' hnq
      rw [hE1 g' r' p' hg' hp', if_neg hnq]
    · intro g' r' p' hg' hp' hnq _
      rw [hE1 g' r' p' hg' hp', if_neg hnq]
    · exact hwd1
end Go.Proofs.YtfcepnhknmbaaaaGreat

/- That the calls' turns keep the invariant, call by call. -/
namespace Go.Proofs.YtfcepnhknmbaaaaGreat

/-- Map has given a page. -/
theorem Inv.mapped {S : MS} {H : Hs} (h : Inv S H) {B : Nat} {kb : Option Nat} {kn : Nat} {K : Int × Int → Option Int} {g p : Int} {r f : Nat} {b : Bool} {M' : Mm} (ha : pres (S.M.ent r p.toNat) = false)
    (hG : Goes B S kb kn K (g, p) (S.M.ent r p.toNat)) (hC : Came S.M M' S.G H g r p.toNat f b) : Inv ((S.cached kb kn K).withM M') (addH H f (g, p.toNat)) := by
  refine ⟨hC.ok, hC.full, h.gpos, ?_, h.gl, h.c4, h.rt⟩
  intro g' p' x hx
  rcases hG.K (g', p') x hx with q | ⟨_, e2, e3⟩
  · obtain ⟨r', a1, a2, a3, a4, a5⟩ := h.coh q
    refine ⟨r', a1, a2, a3, ?_, a5⟩
    rw [a4] at a5 ⊢
    refine (hC.oth.en g' r' p'.toNat a1 (by omega) (fun e => ?_) a5).symm
    rw [e.1, e.2, ha] at a5
    cases a5
  · rw [e2, ha] at e3
    cases e3

/-- Unmap has taken one. -/
theorem Inv.unmapped {S : MS} {H : Hs} (h : Inv S H) {B : Nat} {kb : Option Nat} {kn : Nat} {K : Int × Int → Option Int} {g p : Int} {r : Nat} {M' : Mm} (hg : S.G g = some r) (hp0 : 0 ≤ p)
    (hG : Goes B S kb kn K (g, p) (S.M.ent r p.toNat)) (hC : Went S.M M' S.G H g r p.toNat) : Inv ((S.cached kb kn K).unmapped (g, p) M') (dropH H (numb (S.M.ent r p.toNat)) (g, p.toNat)) := by
  refine ⟨hC.ok, hC.full, h.gpos, ?_, h.gl, h.c4, h.rt⟩
  intro g' p' x hx
  simp only [MS.unmapped, MS.cached] at hx
  by_cases e : (g', p') = (g, p)
  · rw [if_pos e] at hx
    cases hx
  · rw [if_neg e] at hx
    rcases hG.K (g', p') x hx with q | ⟨e1, _, _⟩
    · obtain ⟨r', a1, a2, a3, a4, a5⟩ := h.coh q
      refine ⟨r', a1, a2, a3, ?_, a5⟩
      rw [a4] at a5 ⊢
      refine (hC.oth.en g' r' p'.toNat a1 (by omega) (fun e2 => ?_) a5).symm
      have e3 := h.ok.rootI a1 (by rw [e2.1]; exact hg)
      exact e (Prod.ext e3 (by show p' = p; omega))
    · exact absurd e1 e

/-- Write has written a word. -/
theorem Inv.wrote {S : MS} {H : Hs} (h : Inv S H) {B : Nat} {kb : Option Nat} {kn : Nat} {K : Int × Int → Option Int} {g p v : Int} {r k : Nat} (hg : S.G g = some r) (hp0 : 0 ≤ p) (hp1 : p < 64)
    (hx : pres (S.M.ent r p.toNat) = true) (hG : Goes B S kb kn K (g, p) (S.M.ent r p.toNat)) :
    (∀ g' r' p', S.G g' = some r' → p' < 64 → (S.M.setW (numb (S.M.ent r p.toNat)) k v).ent r' p' = S.M.ent r' p') ∧ Inv ((S.cached kb kn K).withM (S.M.setW (numb (S.M.ent r p.toNat)) k v)) H := by
  obtain ⟨a, b, c⟩ := h.ok.pageN hg (p := p.toNat) (by omega) hx
  obtain ⟨hE, hO⟩ := h.ok.word (f := numb (S.M.ent r p.toNat)) (k := k) (v := v) b c
  have h2 := h.cached hg hp0 hp1 hG
  refine ⟨hE, ⟨hO, ?_, h.gpos, ?_, h.gl, h.c4, h.rt⟩⟩
  · intro g' r' k' hg'' hk hx'
    have hg' : S.G g' = some r' := hg''
    have e1 : (S.M.setW (numb (S.M.ent r p.toNat)) k v).W r' k' = S.M.W r' k' := by
      simp only [Mm.setW, upd2]
      rw [if_neg (fun q => b ⟨g', by rw [hg', q.1]⟩)]
    simp only [MS.withM] at hx' ⊢
    rw [e1] at hx' ⊢
    obtain ⟨i, hi, hy⟩ := h.full g' r' k' hg' hk hx'
    refine ⟨i, hi, ?_⟩
    simp only [Mm.setW, upd2]
    rw [if_neg (fun q => c ⟨g', r', k', hg', hk, hx', q.1⟩)]
    exact hy
  · intro g' p' x q
    obtain ⟨r', a1, a2, a3, a4, a5⟩ := h2.coh q
    exact ⟨r', a1, a2, a3, by rw [a4]; exact (hE g' r' p'.toNat a1 (by omega)).symm, a5⟩

/-- All guests but one are as they were. -/
structure Apart1 (M M' : Mm) (G : Gs) (g : Int) : Prop where
  pr : ∀ g' r' p', G g' = some r' → g' ≠ g → p' < 64 → pres (M'.ent r' p') = pres (M.ent r' p')
  en : ∀ g' r' p', G g' = some r' → g' ≠ g → p' < 64 → pres (M.ent r' p') = true → M'.ent r' p' = M.ent r' p'
  wd : ∀ g' r' p', G g' = some r' → g' ≠ g → p' < 64 → pres (M.ent r' p') = true → ∀ k, M'.W (numb (M.ent r' p')) k = M.W (numb (M.ent r' p')) k

theorem ended_ok {M : Mm} {G : Gs} {H : Hs} (h : Ok M G H) (hf : Full M G) {g : Int} {r : Nat} (hg : G g = some r) : ∀ k, k ≤ 64 →
    ∃ H', Ok (M.endTo r k) G H' ∧ Full (M.endTo r k) G ∧ (∀ p, p < k → pres ((M.endTo r k).ent r p) = false) ∧ (∀ p, p < 64 → pres (M.ent r p) = false → pres ((M.endTo r k).ent r p) = false) ∧ Apart1 M (M.endTo r k) G g
  | 0, _ => ⟨H, h, hf, fun p hp => by omega, fun _ _ q => q, ⟨fun _ _ _ _ _ _ => rfl, fun _ _ _ _ _ _ _ => rfl, fun _ _ _ _ _ _ _ _ => rfl⟩⟩
  | k + 1, hk => by
    obtain ⟨H', o1, f1, a1, b1, c1⟩ := ended_ok h hf hg k (by omega)
    show ∃ H', Ok ((M.endTo r k).remove r k) G H' ∧ _
    cases hx : pres ((M.endTo r k).ent r k) with
    | false =>
      have e : (M.endTo r k).remove r k = M.endTo r k := by simp [Mm.remove, hx]
      refine ⟨H', by rw [e]; exact o1, ?_, ?_, ?_, ?_⟩
      all_goals simp only [Mm.endTo]
      all_goals rw [e]
      · exact f1
      · intro p hp
        by_cases q : p = k
        · rw [q]; exact hx
        · exact a1 p (by omega)
      · exact b1
      · exact c1
    | true =>
      have w := went o1 f1 hg (p := k) (by omega) hx
      have hne : ∀ {g' r' p'}, G g' = some r' → g' ≠ g → ¬ (r' = r ∧ p' = k) := fun {g' r' p'} q q2 e => q2 (h.rootI q (by rw [e.1]; exact hg))
      refine ⟨_, w.ok, w.full, ?_, ?_, ⟨?_, ?_, ?_⟩⟩
      all_goals simp only [Mm.endTo]
      · intro p hp
        by_cases q : p = k
        · rw [q]; exact w.abs
        · rw [w.oth.pr g r p hg (by omega) (fun e => q e.2)]
          exact a1 p (by omega)
      · intro p hp hq
        by_cases q : p = k
        · rw [q]; exact w.abs
        · rw [w.oth.pr g r p hg hp (fun e => q e.2)]
          exact b1 p hp hq
      · intro g' r' p' q q2 hp'
        rw [w.oth.pr g' r' p' q hp' (hne q q2)]
        exact c1.pr g' r' p' q q2 hp'
      · intro g' r' p' q q2 hp' hy
        have hz := c1.en g' r' p' q q2 hp' hy
        rw [w.oth.en g' r' p' q hp' (hne q q2) (by rw [hz]; exact hy)]
        exact hz
      · intro g' r' p' q q2 hp' hy j
        have hz := c1.en g' r' p' q q2 hp' hy
        have := w.oth.wd g' r' p' q hp' (by rw [hz]; exact hy) j
        rw [hz] at this
        rw [this]
        exact c1.wd g' r' p' q q2 hp' hy j

theorem ended_fin {M : Mm} {G : Gs} {H : Hs} (h : Ok M G H) (hf : Full M G) {g : Int} {r : Nat} (hg : G g = some r) :
    ∃ H', Ok (M.ended r) G H' ∧ Full (M.ended r) G ∧ (∀ p, p < 64 → pres ((M.ended r).ent r p) = false) ∧ Apart1 M (M.ended r) G g := by
  have key : ∀ k, k = 64 → ∃ H', Ok (M.endTo r k) G H' ∧ Full (M.endTo r k) G ∧ (∀ p, p < 64 → pres ((M.endTo r k).ent r p) = false) ∧ Apart1 M (M.endTo r k) G g := fun k hk => by
    obtain ⟨H', o1, f1, a1, _, c1⟩ := ended_ok h hf hg k (by omega)
    exact ⟨H', o1, f1, fun p hp => a1 p (by omega), c1⟩
  exact key 64 rfl

theorem endTo_sound {M : Mm} {G : Gs} {H : Hs} (h : Ok M G H) (hf : Full M G) {g : Int} {r : Nat} (hg : G g = some r) : (∀ k, k < 64 → Sound (M.endTo r k) r k) ∧ 1 ≤ (M.ended r).U r := by
  constructor
  · intro k hk
    obtain ⟨H', o1, _⟩ := ended_ok h hf hg k (by omega)
    exact o1.sound hg hk
  · obtain ⟨H', o1, _⟩ := ended_fin h hf hg
    have : (M.ended r).U r = 1 := (o1.rootN hg).2
    omega

/-- Destroy has ended a guest. -/
def MS.ends (S : MS) (g : Int) (E : Mm) : MS :=
  { S with M := E, G := fun j => if j = g then none else S.G j, cnt := S.cnt - 1, K := fun i => if i.1 = g ∧ 0 ≤ i.2 ∧ i.2 < 64 then none else S.K i }

theorem Inv.endsE {S : MS} {H H' : Hs} (h : Inv S H) {g : Int} {r : Nat} (hg : S.G g = some r) {E : Mm} (o1 : Ok E S.G H') (f1 : Full E S.G) (a1 : ∀ p, p < 64 → pres (E.ent r p) = false) (c1 : Apart1 S.M E S.G g) :
    Inv (S.ends g (E.unuse r)) H' ∧ Apart1 S.M (E.unuse r) S.G g := by
  have hn : ∀ k, k < 8 → pres (E.W r k) = false := fun k hk => by
    cases e : pres (E.W r k) with
    | false => rfl
    | true =>
      obtain ⟨p, _, hp, hx⟩ := (group_iff f1 hg hk).1 e
      rw [a1 p hp] at hx
      cases hx
  obtain ⟨hE, hO⟩ := o1.dropRoot hg hn
  have hA : Apart1 S.M (E.unuse r) S.G g := by
    refine ⟨fun g' r' p' q q2 hp' => ?_, fun g' r' p' q q2 hp' hy => ?_, fun g' r' p' q q2 hp' hy k => ?_⟩
    · show pres ((E.unuse r).ent r' p') = _
      rw [hE]
      exact c1.pr g' r' p' q q2 hp'
    · show (E.unuse r).ent r' p' = _
      rw [hE]
      exact c1.en g' r' p' q q2 hp' hy
    · exact c1.wd g' r' p' q q2 hp' hy k
  refine ⟨⟨hO, ?_, ?_, ?_, ?_, ?_, ?_⟩, hA⟩
  · intro g' r' k q hk hx
    simp only [MS.ends] at q
    by_cases e : g' = g
    · rw [if_pos e] at q
      cases q
    · rw [if_neg e] at q
      exact f1 g' r' k q hk hx
  · intro g' r' q
    simp only [MS.ends] at q
    by_cases e : g' = g
    · rw [if_pos e] at q
      cases q
    · rw [if_neg e] at q
      exact h.gpos q
  · intro g' p' x q
    simp only [MS.ends] at q
    by_cases e : g' = g ∧ 0 ≤ p' ∧ p' < 64
    · rw [if_pos e] at q
      cases q
    · rw [if_neg e] at q
      obtain ⟨r', b1, b2, b3, b4, b5⟩ := h.coh q
      have hne : g' ≠ g := fun e2 => e ⟨e2, b2, b3⟩
      refine ⟨r', ?_, b2, b3, ?_, b5⟩
      · simp only [MS.ends]
        rw [if_neg hne]
        exact b1
      · rw [b4] at b5 ⊢
        exact (hA.en g' r' p'.toNat b1 hne (by omega) b5).symm
  · obtain ⟨L, l1, l2, l3⟩ := h.gl
    have hmem : g ∈ L := (l2 g).2 (by rw [hg]; rfl)
    refine ⟨L.erase g, l1.erase g, fun g' => ?_, by simp only [MS.ends, List.length_erase_of_mem hmem, l3]⟩
    rw [l1.mem_erase_iff, l2 g']
    simp only [MS.ends]
    by_cases e : g' = g
    · rw [if_pos e]
      simp [e]
    · rw [if_neg e]
      simp [e]
  · have := h.c4
    simp only [MS.ends]
    omega
  · intro g' r' q
    simp only [MS.ends] at q ⊢
    by_cases e : g' = g
    · rw [if_pos e] at q
      cases q
    · rw [if_neg e] at q
      exact h.rt q

theorem Inv.destroyed {S : MS} {H : Hs} (h : Inv S H) {g : Int} {r : Nat} (hg : S.G g = some r) : ∃ H', Inv (S.destroyed g r) H' ∧ Apart1 S.M ((S.M.ended r).unuse r) S.G g := by
  obtain ⟨H', o1, f1, a1, c1⟩ := ended_fin h.ok h.full hg
  exact ⟨H', h.endsE hg o1 f1 a1 c1⟩

/-- Where no guest is, all frames are free. -/
theorem freeTo_all {U : Nat → Int} : ∀ {k : Nat}, (∀ j, j < k → U j = 0) → freeTo U k = k
  | 0, _ => rfl
  | k + 1, h => by simp only [freeTo, freeTo_all (k := k) (fun j hj => h j (by omega)), h k (by omega), if_true]

theorem free_none {M : Mm} {G : Gs} {H : Hs} (h : Ok M G H) (hG : ∀ g, G g = none) : M.free = M.n := by
  refine freeTo_all (fun j hj => ?_)
  have hr : ¬ IsRoot G j := fun ⟨g, q⟩ => by rw [hG] at q; cases q
  have ht : ¬ IsTab M G j := fun ⟨g, _, _, q, _⟩ => by rw [hG] at q; cases q
  rw [h.hU j hj hr ht]
  have : H j = [] := by
    apply List.eq_nil_iff_forall_not_mem.2
    rintro ⟨g, p⟩ hm
    obtain ⟨_, _, q, _⟩ := (h.hIn j g p).1 hm
    rw [hG] at q
    cases q
  rw [this]
  rfl

/-- Where one guest is, without pages, all frames but one are. -/
theorem free_one {M : Mm} {G : Gs} {H : Hs} (h : Ok M G H) (hf : Full M G) {g : Int} {r : Nat} (hg : G g = some r) (hG : ∀ g', g' ≠ g → G g' = none) (hp : ∀ p, p < 64 → pres (M.ent r p) = false) : M.free + 1 = M.n := by
  have h2 : ∀ j, j < M.n → upd M.U r 0 j = 0 := fun j hj => by
    simp only [upd]
    split
    · rfl
    · rename_i e
      have hro : ∀ {g' r'}, G g' = some r' → r' = r := fun {g' r'} q => by
        by_cases e2 : g' = g
        · rw [e2, hg] at q
          injection q with q
          exact q.symm
        · rw [hG g' e2] at q
          cases q
      have hr : ¬ IsRoot G j := fun ⟨g', q⟩ => e (hro q)
      have ht : ¬ IsTab M G j := by
        rintro ⟨g', r', k, q, hk, hx, _⟩
        obtain ⟨p, _, hp', hx'⟩ := (group_iff hf q hk).1 hx
        rw [hro q, hp p hp'] at hx'
        cases hx'
      rw [h.hU j hj hr ht]
      have : H j = [] := by
        apply List.eq_nil_iff_forall_not_mem.2
        rintro ⟨g', p⟩ hm
        obtain ⟨hp', r', q, hx', _⟩ := (h.hIn j g' p).1 hm
        rw [hro q, hp p hp'] at hx'
        cases hx'
      rw [this]
      rfl
  have h1 := freeTo_all h2
  have h3 := freeTo_upd (U := M.U) (v := 0) (h.rootN hg).1
  rw [if_neg (by have := (h.rootN hg).2; omega), if_pos rfl, h1] at h3
  exact h3.symm
end Go.Proofs.YtfcepnhknmbaaaaGreat
