/- That Map, Unmap, Write and Destroy keep the invariant; what each does to the pages that guests see, and to the number of free frames. -/
import Derived.Test.YtfcepnhknmbaaaaInv
namespace Go.Proofs.Ytfcepnhknmbaaaa

/-- Pages other than one are as they were. -/
structure Others (M M' : Mm) (G : Gs) (r p : Nat) : Prop where
  pr : ∀ g' r' p', G g' = some r' → p' < 64 → ¬ (r' = r ∧ p' = p) → pres (M'.ent r' p') = pres (M.ent r' p')
  en : ∀ g' r' p', G g' = some r' → p' < 64 → ¬ (r' = r ∧ p' = p) → pres (M.ent r' p') = true → M'.ent r' p' = M.ent r' p'
  wd : ∀ g' r' p', G g' = some r' → p' < 64 → pres (M.ent r' p') = true → ∀ k, M'.W (numb (M.ent r' p')) k = M.W (numb (M.ent r' p')) k

/-- A page has come. -/
structure Came (M M' : Mm) (G : Gs) (H : Hs) (g : Int) (r p f : Nat) (b : Bool) : Prop where
  n : M'.n = M.n
  ok : Ok M' G (addH H f (g, p))
  full : Full M' G
  en : M'.ent r p = entryOf f b
  oth : Others M M' G r p
  fn : f < M.n
  zero : ∀ k, M'.W f k = 0
  new : ∀ g' r' p', G g' = some r' → p' < 64 → pres (M.ent r' p') = true → numb (M.ent r' p') ≠ f

theorem came_had {M : Mm} {G : Gs} {H : Hs} (h : Ok M G H) (hfu : Full M G) {g : Int} {r p f : Nat} (b : Bool) (hg : G g = some r) (hp : p < 64) (ha : pres (M.ent r p) = false) (hx : pres (M.tbl r p) = true) (hf : M.first = some f) :
    Came M ((M.take f).entered r p f b) G H g r p f b ∧ ((M.take f).entered r p f b).free + 1 = M.free := by
  obtain ⟨hfn, hu⟩ := first_lt hf
  have hle := h.le
  have hrf := h.root_ne_free hu hg
  have htb : (M.take f).tbl r p = M.W r (p / 8) := by
    show (M.take f).W r (p / 8) = _
    rw [addRt_W, if_neg hrf]
  have he : (M.take f).entered r p f b = addPg M (numb (M.W r (p / 8))) (p % 8) f b := by
    simp only [Mm.entered, htb, addPg]
  have hk8 : p / 8 < 8 := by omega
  have htf : numb (M.W r (p / 8)) ≠ f := h.tab_ne_free hu hg hk8 hx
  obtain ⟨hE, hO⟩ := h.addPage (b := b) hg hp hx ha hfn hu
  have hWr : ∀ g' r' j, G g' = some r' → (addPg M (numb (M.W r (p / 8))) (p % 8) f b).W r' j = M.W r' j := fun g' r' j hg' => by
    rw [addPg_W, if_neg (fun e => h.tab_ne_root hg hk8 hx hg' e.1.symm), if_neg (h.root_ne_free hu hg')]
  rw [he]
  refine ⟨⟨rfl, hO, ?_, ?_, ⟨?_, ?_, ?_⟩, hfn, ?_, ?_⟩, ?_⟩
  · intro g' r' k hg' hk hx'
    rw [hWr g' r' k hg'] at hx' ⊢
    obtain ⟨i, hi, hy⟩ := hfu g' r' k hg' hk hx'
    refine ⟨i, hi, ?_⟩
    rw [addPg_W]
    split
    · exact pres_entryOf _ _
    · rw [if_neg (h.tab_ne_free hu hg' hk hx')]
      exact hy
  · rw [hE g r p hg hp, if_pos ⟨rfl, rfl⟩]
  · intro g' r' p' hg' hp' hne
    rw [hE g' r' p' hg' hp', if_neg hne]
  · intro g' r' p' hg' hp' hne _
    rw [hE g' r' p' hg' hp', if_neg hne]
  · intro g' r' p' hg' hp' hx' k
    rw [addPg_W, if_neg (fun e => (h.pageN hg' hp' hx').2.2 ⟨g, r, p / 8, hg, hk8, hx, e.1.symm⟩), if_neg (h.free_page hu hg' hp' hx')]
  · intro k
    rw [addPg_W, if_neg (fun e => htf e.1.symm), if_pos rfl]
  · intro g' r' p' hg' hp' hx'
    exact h.free_page hu hg' hp' hx'
  · exact take_free hfn hu

theorem came_new {M : Mm} {G : Gs} {H : Hs} (h : Ok M G H) (hfu : Full M G) {g : Int} {r p f t : Nat} (b : Bool) (hg : G g = some r) (hp : p < 64) (hx : pres (M.tbl r p) = false) (hf : M.first = some f) (ht : (M.take f).first = some t) :
    Came M (((M.take f).tabled r p t).entered r p f b) G H g r p f b ∧ (((M.take f).tabled r p t).entered r p f b).free + 2 = M.free := by
  obtain ⟨hfn, hu⟩ := first_lt hf
  obtain ⟨htn, htu⟩ := first_lt ht
  have htn : t < M.n := htn
  have hle := h.le
  have hk8 : p / 8 < 8 := by omega
  have htf : t ≠ f := fun e => by
    rw [e, addRt_U, if_pos rfl] at htu
    omega
  have htu' : M.U t = 0 := by
    rw [addRt_U, if_neg htf] at htu
    exact htu
  have hrf := h.root_ne_free hu hg
  have hrt := h.root_ne_free htu' hg
  have he : ((M.take f).tabled r p t).entered r p f b = addPg (addTb M r (p / 8) t) t (p % 8) f b := by
    have e1 : numb (((M.take f).tabled r p t).tbl r p) = t := by rw [tabled_tbl, numb_entryOf t true (by omega)]
    have e0 : ((M.take f).tabled r p t).entered r p f b = ((M.take f).tabled r p t).setW t (p % 8) (entryOf f b) := by
      unfold Mm.entered
      rw [e1]
    have eW : ∀ j l, (((M.take f).tabled r p t).entered r p f b).W j l = (addPg (addTb M r (p / 8) t) t (p % 8) f b).W j l := fun j l => by
      rw [addPg_W, addTb_W, e0]
      show (if j = t ∧ l = p % 8 then entryOf f b else if j = r ∧ l = p / 8 then entryOf t true else ((M.take f).take t).W j l) = _
      by_cases a1 : j = t ∧ l = p % 8
      · rw [if_pos a1, if_pos a1]
      · rw [if_neg a1, if_neg a1]
        by_cases a2 : j = f
        · rw [if_pos a2, if_neg (fun e => hrf (by rw [← e.1, a2])), addRt_W]
          split
          · rfl
          · rw [addRt_W, if_pos a2]
        · rw [if_neg a2, addRt_W, addRt_W, if_neg a2]
    have eU : ∀ j, (((M.take f).tabled r p t).entered r p f b).U j = (addPg (addTb M r (p / 8) t) t (p % 8) f b).U j := fun j => by
      rw [addPg_U, addTb_U]
      show ((M.take f).take t).U j = _
      rw [addRt_U, addRt_U]
      by_cases a1 : j = t
      · rw [if_pos a1, if_neg (by omega), if_pos a1]
      · rw [if_neg a1, if_neg a1]
    have eW' := funext fun j => funext (eW j)
    have eU' := funext eU
    show Mm.mk _ (((M.take f).tabled r p t).entered r p f b).W (((M.take f).tabled r p t).entered r p f b).U = Mm.mk _ (addPg (addTb M r (p / 8) t) t (p % 8) f b).W (addPg (addTb M r (p / 8) t) t (p % 8) f b).U
    rw [eW', eU']
    rfl
  obtain ⟨hE1, hO1⟩ := h.addTab hg hk8 hx htn htu'
  have hWt : (addTb M r (p / 8) t).W r (p / 8) = entryOf t true := by rw [addTb_W, if_pos ⟨rfl, rfl⟩]
  have hnt : numb ((addTb M r (p / 8) t).W r (p / 8)) = t := by rw [hWt, numb_entryOf t true (by omega)]
  have hu1 : (addTb M r (p / 8) t).U f = 0 := by rw [addTb_U, if_neg (fun e => htf e.symm)]; exact hu
  have ha1 : pres ((addTb M r (p / 8) t).ent r p) = false := by rw [hE1 g r p hg hp, if_pos ⟨rfl, rfl⟩]; rfl
  have hx1 : pres ((addTb M r (p / 8) t).W r (p / 8)) = true := by rw [hWt]; exact pres_entryOf _ _
  obtain ⟨hE2, hO2⟩ := hO1.addPage (b := b) hg hp hx1 ha1 hfn hu1
  rw [hnt] at hE2 hO2
  have hWr : ∀ g' r' j, G g' = some r' → (addPg (addTb M r (p / 8) t) t (p % 8) f b).W r' j = if r' = r ∧ j = p / 8 then entryOf t true else M.W r' j := fun g' r' j hg' => by
    rw [addPg_W, if_neg (fun e => h.root_ne_free htu' hg' e.1), if_neg (h.root_ne_free hu hg'), addTb_W]
    split
    · rfl
    · rw [if_neg (h.root_ne_free htu' hg')]
  have habs : ∀ p', p' / 8 = p / 8 → pres (M.ent r p') = false := fun p' e => by
    have : pres (M.W r (p' / 8)) = false := by rw [e]; exact hx
    rw [ent_abs this]
    exact this
  have hpr : ∀ g' r' p', G g' = some r' → p' < 64 → ¬ (r' = r ∧ p' = p) → (pres (M.ent r' p') = true → (addPg (addTb M r (p / 8) t) t (p % 8) f b).ent r' p' = M.ent r' p') ∧ pres ((addPg (addTb M r (p / 8) t) t (p % 8) f b).ent r' p') = pres (M.ent r' p') := fun g' r' p' hg' hp' hne => by
    rw [hE2 g' r' p' hg' hp', if_neg hne, hE1 g' r' p' hg' hp']
    by_cases e : r' = r ∧ p' / 8 = p / 8
    · rw [if_pos e]
      have := habs p' e.2
      rw [e.1, this]
      exact ⟨fun q => (by cases q), rfl⟩
    · rw [if_neg e]
      exact ⟨fun _ => rfl, rfl⟩
  rw [he]
  refine ⟨⟨rfl, hO2, ?_, ?_, ⟨?_, ?_, ?_⟩, hfn, ?_, ?_⟩, ?_⟩
  · intro g' r' k hg' hk hx'
    rw [hWr g' r' k hg'] at hx' ⊢
    by_cases e : r' = r ∧ k = p / 8
    · rw [if_pos e, numb_entryOf t true (by omega)]
      refine ⟨p % 8, by omega, ?_⟩
      rw [addPg_W, if_pos ⟨rfl, rfl⟩]
      exact pres_entryOf _ _
    · rw [if_neg e] at hx' ⊢
      obtain ⟨i, hi, hy⟩ := hfu g' r' k hg' hk hx'
      refine ⟨i, hi, ?_⟩
      have h1 := h.tab_ne_free htu' hg' hk hx'
      have h2 := h.tab_ne_free hu hg' hk hx'
      have h3 := h.tab_ne_root hg' hk hx' hg
      rw [addPg_W, if_neg (fun q => h1 q.1), if_neg h2, addTb_W, if_neg (fun q => h3 q.1), if_neg h1]
      exact hy
  · rw [hE2 g r p hg hp, if_pos ⟨rfl, rfl⟩]
  · intro g' r' p' hg' hp' hne
    exact (hpr g' r' p' hg' hp' hne).2
  · intro g' r' p' hg' hp' hne hx'
    exact (hpr g' r' p' hg' hp' hne).1 hx'
  · intro g' r' p' hg' hp' hx' k
    have h1 := h.free_page htu' hg' hp' hx'
    have h2 := h.free_page hu hg' hp' hx'
    have h3 : numb (M.ent r' p') ≠ r := fun e => (h.pageN hg' hp' hx').2.1 ⟨g, by rw [hg, e]⟩
    rw [addPg_W, if_neg (fun q => h1 q.1), if_neg h2, addTb_W, if_neg (fun q => h3 q.1), if_neg h1]
  · intro k
    rw [addPg_W, if_neg (fun e => htf e.1.symm), if_pos rfl]
  · intro g' r' p' hg' hp' hx'
    exact h.free_page hu hg' hp' hx'
  · have e1 := take_free hfn hu
    have e2 := take_free (M := M.take f) (i := t) htn htu
    have e3 : (addPg (addTb M r (p / 8) t) t (p % 8) f b).free = ((M.take f).take t).free := by rw [← he]; rfl
    omega

/-- A page has gone. -/
structure Went (M M' : Mm) (G : Gs) (H : Hs) (g : Int) (r p : Nat) : Prop where
  n : M'.n = M.n
  ok : Ok M' G (dropH H (numb (M.ent r p)) (g, p))
  full : Full M' G
  abs : pres (M'.ent r p) = false
  oth : Others M M' G r p
  freeMore : (∃ p', p' < 64 ∧ p' / 8 = p / 8 ∧ p' ≠ p ∧ pres (M.ent r p') = true) → M'.free = M.free + (if M.U (numb (M.ent r p)) = 1 then 1 else 0)
  freeLast : (¬ ∃ p', p' < 64 ∧ p' / 8 = p / 8 ∧ p' ≠ p ∧ pres (M.ent r p') = true) → M'.free = M.free + (if M.U (numb (M.ent r p)) = 1 then 1 else 0) + 1

theorem went {M : Mm} {G : Gs} {H : Hs} (h : Ok M G H) (hfu : Full M G) {g : Int} {r p : Nat} (hg : G g = some r) (hp : p < 64) (hx : pres (M.ent r p) = true) : Went M (M.remove r p) G H g r p := by
  have hk8 : p / 8 < 8 := by omega
  have hxt : pres (M.W r (p / 8)) = true := pres_tbl hx
  obtain ⟨htn, htu, htr⟩ := h.tabN hg hk8 hxt
  obtain ⟨hfn, hfr, hft⟩ := h.pageN hg hp hx
  have hfU := h.pageU hg hp hx
  have hne : numb (M.ent r p) ≠ numb (M.W r (p / 8)) := fun e => hft ⟨g, r, p / 8, hg, hk8, hxt, e.symm⟩
  have htr' : numb (M.W r (p / 8)) ≠ r := h.tab_ne_root hg hk8 hxt hg
  obtain ⟨hE1, hO1⟩ := h.dropPage hg hp hx
  have hrem : M.removed r p = dropPg M (numb (M.W r (p / 8))) (p % 8) (numb (M.ent r p)) := rfl
  have hf1 : (dropPg M (numb (M.W r (p / 8))) (p % 8) (numb (M.ent r p))).free = M.free + (if M.U (numb (M.ent r p)) = 1 then 1 else 0) := unuse_free hfn hfU
  have hW1 : ∀ g' r' j, G g' = some r' → (dropPg M (numb (M.W r (p / 8))) (p % 8) (numb (M.ent r p))).W r' j = M.W r' j := fun g' r' j hg' => by
    rw [dropPg_W, if_neg (fun e => h.tab_ne_root hg hk8 hxt hg' e.1.symm)]
  have hrest : (∃ p', p' < 64 ∧ p' / 8 = p / 8 ∧ p' ≠ p ∧ pres (M.ent r p') = true) ↔ ∃ i, i < 8 ∧ pres ((dropPg M (numb (M.W r (p / 8))) (p % 8) (numb (M.ent r p))).W (numb (M.W r (p / 8))) i) = true := by
    constructor
    · rintro ⟨p', a1, a2, a3, a4⟩
      refine ⟨p' % 8, by omega, ?_⟩
      rw [dropPg_W, if_neg (fun e => a3 (by omega))]
      rw [ent_pres (by rw [a2]; exact hxt), a2] at a4
      exact a4
    · rintro ⟨i, hi, hy⟩
      rw [dropPg_W] at hy
      split at hy
      · cases hy
      · rename_i e
        have e1 : (8 * (p / 8) + i) / 8 = p / 8 := by omega
        have e2 : (8 * (p / 8) + i) % 8 = i := by omega
        refine ⟨8 * (p / 8) + i, by omega, e1, fun q => e ⟨rfl, by omega⟩, ?_⟩
        rw [ent_pres (by rw [e1]; exact hxt), e1, e2]
        exact hy
  have hwd1 : ∀ g' r' p', G g' = some r' → p' < 64 → pres (M.ent r' p') = true → ∀ k, (dropPg M (numb (M.W r (p / 8))) (p % 8) (numb (M.ent r p))).W (numb (M.ent r' p')) k = M.W (numb (M.ent r' p')) k := fun g' r' p' hg' hp' hx' k => by
    rw [dropPg_W, if_neg (fun e => (h.pageN hg' hp' hx').2.2 ⟨g, r, p / 8, hg, hk8, hxt, e.1.symm⟩)]
  by_cases hem : (M.removed r p).empty (numb (M.tbl r p)) = true
  · have hrm : M.remove r p = dropTb (dropPg M (numb (M.W r (p / 8))) (p % 8) (numb (M.ent r p))) r (p / 8) (numb (M.W r (p / 8))) := by
      simp only [Mm.remove, hx, if_true]
      rw [if_pos hem]
      rfl
    have hnone := (empty_iff _ _).1 hem
    rw [hrem] at hnone
    have hWt := hW1 g r (p / 8) hg
    have hxt1 : pres ((dropPg M (numb (M.W r (p / 8))) (p % 8) (numb (M.ent r p))).W r (p / 8)) = true := by rw [hWt]; exact hxt
    have h2 := hO1.dropTab hg hk8 hxt1 (by rw [hWt]; exact hnone)
    rw [hWt] at h2
    obtain ⟨hE2, hO2⟩ := h2
    rw [hrm]
    have hno : ¬ ∃ p', p' < 64 ∧ p' / 8 = p / 8 ∧ p' ≠ p ∧ pres (M.ent r p') = true := fun q => by
      obtain ⟨i, hi, hy⟩ := hrest.1 q
      have := hnone i hi
      simp only [Mm.tbl] at this
      rw [hy] at this
      cases this
    refine ⟨rfl, hO2, ?_, ?_, ⟨?_, ?_, ?_⟩, fun q => absurd q hno, fun _ => ?_⟩
    · intro g' r' k hg' hk hx'
      rw [dropTb_W] at hx'
      split at hx'
      · cases hx'
      · rename_i e
        have hWk : (dropTb (dropPg M (numb (M.W r (p / 8))) (p % 8) (numb (M.ent r p))) r (p / 8) (numb (M.W r (p / 8)))).W r' k = M.W r' k := by rw [dropTb_W, if_neg e, hW1 g' r' k hg']
        rw [hW1 g' r' k hg'] at hx'
        obtain ⟨i, hi, hy⟩ := hfu g' r' k hg' hk hx'
        refine ⟨i, hi, ?_⟩
        rw [hWk, dropTb_W, if_neg (fun q => h.tab_ne_root hg' hk hx' hg q.1), dropPg_W, if_neg]
        · exact hy
        · rintro ⟨q1, q2⟩
          obtain ⟨e3, e4⟩ := h.tabI hg' hk hx' hg hk8 hxt q1
          subst e3
          rw [hg] at hg'
          injection hg' with hg'
          exact e ⟨hg'.symm, e4⟩
    · rw [hE2 g r p hg hp, if_pos ⟨rfl, rfl⟩]
      rfl
    · intro g' r' p' hg' hp' hnq
      rw [hE2 g' r' p' hg' hp', hE1 g' r' p' hg' hp', if_neg hnq]
      split
      · rename_i e
        have : ¬ pres (M.ent r' p') = true := fun q => hno ⟨p', hp', e.2, fun q2 => hnq ⟨e.1, q2⟩, by rw [← e.1]; exact q⟩
        simp only [Bool.not_eq_true] at this
        rw [this]
        rfl
      · rfl
    · intro g' r' p' hg' hp' hnq hx'
      rw [hE2 g' r' p' hg' hp', hE1 g' r' p' hg' hp', if_neg hnq]
      split
      · rename_i e
        exact absurd ⟨p', hp', e.2, fun q2 => hnq ⟨e.1, q2⟩, by rw [← e.1]; exact hx'⟩ hno
      · rfl
    · intro g' r' p' hg' hp' hx' k
      rw [dropTb_W, if_neg (fun q => (h.pageN hg' hp' hx').2.1 ⟨g, by rw [hg, q.1]⟩)]
      exact hwd1 g' r' p' hg' hp' hx' k
    · have hUt : (dropPg M (numb (M.W r (p / 8))) (p % 8) (numb (M.ent r p))).U (numb (M.W r (p / 8))) = 1 := by
        rw [dropPg_U, if_neg (fun e => hne e.symm)]
        exact htu
      have hf2 : (dropTb (dropPg M (numb (M.W r (p / 8))) (p % 8) (numb (M.ent r p))) r (p / 8) (numb (M.W r (p / 8)))).free = (dropPg M (numb (M.W r (p / 8))) (p % 8) (numb (M.ent r p))).free + (if (dropPg M (numb (M.W r (p / 8))) (p % 8) (numb (M.ent r p))).U (numb (M.W r (p / 8))) = 1 then 1 else 0) := unuse_free (M := dropPg M (numb (M.W r (p / 8))) (p % 8) (numb (M.ent r p))) (f := numb (M.W r (p / 8))) htn (by omega)
      rw [hf2, hf1, if_pos hUt]
  · have hrm : M.remove r p = dropPg M (numb (M.W r (p / 8))) (p % 8) (numb (M.ent r p)) := by
      simp only [Mm.remove, hx, if_true]
      rw [if_neg hem]
      rfl
    have hyes : ∃ i, i < 8 ∧ pres ((dropPg M (numb (M.W r (p / 8))) (p % 8) (numb (M.ent r p))).W (numb (M.W r (p / 8))) i) = true := by
      apply Classical.byContradiction
      intro q
      apply hem
      rw [empty_iff]
      intro i hi
      cases e : pres ((M.removed r p).W (numb (M.tbl r p)) i) with
      | false => rfl
      | true => exact absurd ⟨i, hi, e⟩ q
    rw [hrm]
    refine ⟨rfl, hO1, ?_, ?_, ⟨?_, ?_, ?_⟩, fun _ => hf1, fun q => absurd (hrest.2 hyes) q⟩
    · intro g' r' k hg' hk hx'
      rw [hW1 g' r' k hg'] at hx' ⊢
      by_cases e : numb (M.W r' k) = numb (M.W r (p / 8))
      · rw [e]
        exact hyes
      · obtain ⟨i, hi, hy⟩ := hfu g' r' k hg' hk hx'
        refine ⟨i, hi, ?_⟩
        rw [dropPg_W, if_neg (fun q => e q.1)]
        exact hy
    · rw [hE1 g r p hg hp, if_pos ⟨rfl, rfl⟩]
      rfl
    · intro g' r' p' hg' hp' hnq
      rw [hE1 g' r' p' hg' hp', if_neg hnq]
    · intro g' r' p' hg' hp' hnq _
      rw [hE1 g' r' p' hg' hp', if_neg hnq]
    · exact hwd1
end Go.Proofs.Ytfcepnhknmbaaaa
