/- The plain mathematics of frames: roots, tables, pages; who holds a frame ('Ok'); what is added and dropped keeps it. -/
import Derived.Test.YtfcepnhknmbaaaaGreatTabM
namespace Go.Proofs.YtfcepnhknmbaaaaGreat

abbrev Gs := Int → Option Nat
abbrev Hs := Nat → List (Int × Nat)

def IsRoot (G : Gs) (f : Nat) : Prop := ∃ g, G g = some f
def IsTab (M : Mm) (G : Gs) (f : Nat) : Prop := ∃ g r k, G g = some r ∧ k < 8 ∧ pres (M.W r k) = true ∧ numb (M.W r k) = f

structure Ok (M : Mm) (G : Gs) (H : Hs) : Prop where
  le : M.n ≤ 64
  rootN : ∀ {g r}, G g = some r → r < M.n ∧ M.U r = 1
  rootI : ∀ {g g' r}, G g = some r → G g' = some r → g = g'
  tabN : ∀ {g r k}, G g = some r → k < 8 → pres (M.W r k) = true → numb (M.W r k) < M.n ∧ M.U (numb (M.W r k)) = 1 ∧ ¬ IsRoot G (numb (M.W r k))
  tabI : ∀ {g r k g' r' k'}, G g = some r → k < 8 → pres (M.W r k) = true → G g' = some r' → k' < 8 → pres (M.W r' k') = true → numb (M.W r k) = numb (M.W r' k') → g = g' ∧ k = k'
  pageN : ∀ {g r p}, G g = some r → p < 64 → pres (M.ent r p) = true → numb (M.ent r p) < M.n ∧ ¬ IsRoot G (numb (M.ent r p)) ∧ ¬ IsTab M G (numb (M.ent r p))
  hNd : ∀ f, (H f).Nodup
  hIn : ∀ f g p, (g, p) ∈ H f ↔ p < 64 ∧ ∃ r, G g = some r ∧ pres (M.ent r p) = true ∧ numb (M.ent r p) = f
  hU : ∀ f, f < M.n → ¬ IsRoot G f → ¬ IsTab M G f → M.U f = (H f).length

theorem ent_pres {M : Mm} {r p : Nat} (h : pres (M.W r (p / 8)) = true) : M.ent r p = M.W (numb (M.W r (p / 8))) (p % 8) := by
  simp [Mm.ent, Mm.tbl, h]
theorem ent_abs {M : Mm} {r p : Nat} (h : pres (M.W r (p / 8)) = false) : M.ent r p = M.W r (p / 8) := by
  simp [Mm.ent, Mm.tbl, h]

theorem ent_congr {M M' : Mm} {r p : Nat} (h1 : M'.W r (p / 8) = M.W r (p / 8)) (h2 : pres (M.W r (p / 8)) = true → M'.W (numb (M.W r (p / 8))) (p % 8) = M.W (numb (M.W r (p / 8))) (p % 8)) : M'.ent r p = M.ent r p := by
  cases h : pres (M.W r (p / 8)) with
  | true => rw [ent_pres h, ent_pres (by rw [h1]; exact h), h1]; exact h2 h
  | false => rw [ent_abs h, ent_abs (by rw [h1]; exact h), h1]

namespace Ok
variable {M : Mm} {G : Gs} {H : Hs}

theorem pageU (h : Ok M G H) {g r p} (hg : G g = some r) (hp : p < 64) (hx : pres (M.ent r p) = true) : 1 ≤ M.U (numb (M.ent r p)) := by
  obtain ⟨a, b, c⟩ := h.pageN hg hp hx
  rw [h.hU _ a b c]
  have : (g, p) ∈ H (numb (M.ent r p)) := (h.hIn _ _ _).2 ⟨hp, r, hg, hx, rfl⟩
  have := List.length_pos_of_mem this
  omega

theorem free_root (h : Ok M G H) {f : Nat} (hu : M.U f = 0) : ¬ IsRoot G f := by
  rintro ⟨g, hg⟩
  have := (h.rootN hg).2
  omega
theorem free_tab (h : Ok M G H) {f : Nat} (hu : M.U f = 0) : ¬ IsTab M G f := by
  rintro ⟨g, r, k, hg, hk, hx, rfl⟩
  have := (h.tabN hg hk hx).2.1
  omega
theorem free_page (h : Ok M G H) {f : Nat} (hu : M.U f = 0) {g r p} (hg : G g = some r) (hp : p < 64) (hx : pres (M.ent r p) = true) : numb (M.ent r p) ≠ f := by
  intro e
  have := h.pageU hg hp hx
  rw [e] at this
  omega
theorem free_hold (h : Ok M G H) {f : Nat} (hf : f < M.n) (hu : M.U f = 0) : H f = [] := by
  have := h.hU f hf (h.free_root hu) (h.free_tab hu)
  rw [hu] at this
  exact List.eq_nil_of_length_eq_zero (by omega)

theorem root_ne_free (h : Ok M G H) {f : Nat} (hu : M.U f = 0) {g r} (hg : G g = some r) : r ≠ f := fun e => h.free_root hu ⟨g, by rw [hg, e]⟩
theorem tab_ne_free (h : Ok M G H) {f : Nat} (hu : M.U f = 0) {g r k} (hg : G g = some r) (hk : k < 8) (hx : pres (M.W r k) = true) : numb (M.W r k) ≠ f := fun e => h.free_tab hu ⟨g, r, k, hg, hk, hx, e⟩
theorem tab_ne_root (h : Ok M G H) {g r k g' r'} (hg : G g = some r) (hk : k < 8) (hx : pres (M.W r k) = true) (hg' : G g' = some r') : numb (M.W r k) ≠ r' := fun e => (h.tabN hg hk hx).2.2 ⟨g', by rw [hg', e]⟩

/-- The sound walks. -/
theorem sound (h : Ok M G H) {g r} (hg : G g = some r) {p : Nat} (hp : p < 64) : Sound M r p := by
  refine ⟨(h.rootN hg).1, fun hx => ?_, fun hx => ?_⟩
  · obtain ⟨a, b, c⟩ := h.tabN hg (k := p / 8) (by omega) hx
    exact ⟨a, fun e => c ⟨g, by rw [hg]; exact congrArg some e.symm⟩, by show 1 ≤ M.U (numb (M.W r (p / 8))); omega⟩
  · obtain ⟨a, b, c⟩ := h.pageN hg hp hx
    exact ⟨a, h.pageU hg hp hx, fun e => c ⟨g, r, p / 8, hg, by omega, pres_tbl hx, e.symm⟩⟩
end Ok

/-! A page frame's word is written. -/
theorem Ok.word {M : Mm} {G : Gs} {H : Hs} (h : Ok M G H) {f k : Nat} {v : Int} (hr : ¬ IsRoot G f) (ht : ¬ IsTab M G f) : (∀ g r p, G g = some r → p < 64 → (M.setW f k v).ent r p = M.ent r p) ∧ Ok (M.setW f k v) G H := by
  have hW : ∀ g r j, G g = some r → (M.setW f k v).W r j = M.W r j := fun g r j hg => by
    simp only [Mm.setW, upd2]
    rw [if_neg (fun e => hr ⟨g, by rw [hg, e.1]⟩)]
  have hE : ∀ g r p, G g = some r → p < 64 → (M.setW f k v).ent r p = M.ent r p := fun g r p hg hp => by
    refine ent_congr (hW g r _ hg) (fun hx => ?_)
    simp only [Mm.setW, upd2]
    rw [if_neg (fun e => ht ⟨g, r, p / 8, hg, by omega, hx, e.1⟩)]
  have hT : ∀ f', IsTab (M.setW f k v) G f' → IsTab M G f' := by
    rintro f' ⟨g, r, k', hg, hk, hx, hn⟩
    rw [hW g r k' hg] at hx hn
    exact ⟨g, r, k', hg, hk, hx, hn⟩
  have hT' : ∀ f', IsTab M G f' → IsTab (M.setW f k v) G f' := by
    rintro f' ⟨g, r, k', hg, hk, hx, hn⟩
    rw [← hW g r k' hg] at hx hn
    exact ⟨g, r, k', hg, hk, hx, hn⟩
  refine ⟨hE, ⟨h.le, h.rootN, h.rootI, ?_, ?_, ?_, h.hNd, ?_, ?_⟩⟩
  · intro g r k' hg hk hx
    rw [hW g r k' hg] at hx ⊢
    exact h.tabN hg hk hx
  · intro g r k1 g' r' k2 hg hk hx hg' hk' hx' e
    rw [hW g r k1 hg] at hx e
    rw [hW g' r' k2 hg'] at hx' e
    exact h.tabI hg hk hx hg' hk' hx' e
  · intro g r p hg hp hx
    rw [hE g r p hg hp] at hx ⊢
    obtain ⟨a, b, c⟩ := h.pageN hg hp hx
    exact ⟨a, b, fun e => c (hT _ e)⟩
  · intro f' g p
    rw [h.hIn f' g p]
    constructor
    · rintro ⟨hp, r, hg, hx, hn⟩
      exact ⟨hp, r, hg, by rw [hE g r p hg hp]; exact hx, by rw [hE g r p hg hp]; exact hn⟩
    · rintro ⟨hp, r, hg, hx, hn⟩
      rw [hE g r p hg hp] at hx hn
      exact ⟨hp, r, hg, hx, hn⟩
  · intro f' hf h1 h2
    exact h.hU f' hf h1 (fun e => h2 (hT' _ e))

/-! A table is added. -/
def addTb (M : Mm) (r k t : Nat) : Mm := (M.take t).setW r k (entryOf t true)

theorem addTb_W {M : Mm} {r k t j l : Nat} : (addTb M r k t).W j l = if j = r ∧ l = k then entryOf t true else if j = t then 0 else M.W j l := rfl
theorem addTb_U {M : Mm} {r k t j : Nat} : (addTb M r k t).U j = if j = t then 1 else M.U j := rfl

theorem Ok.addTab {M : Mm} {G : Gs} {H : Hs} (h : Ok M G H) {g : Int} {r k t : Nat} (hg : G g = some r) (hk : k < 8) (hx : pres (M.W r k) = false) (ht : t < M.n) (hu : M.U t = 0) :
    (∀ g' r' p, G g' = some r' → p < 64 → (addTb M r k t).ent r' p = if r' = r ∧ p / 8 = k then 0 else M.ent r' p) ∧ Ok (addTb M r k t) G H := by
  have hle := h.le
  have hrt : r ≠ t := h.root_ne_free hu hg
  have hW : ∀ g' r' j, G g' = some r' → (addTb M r k t).W r' j = if r' = r ∧ j = k then entryOf t true else M.W r' j := fun g' r' j hg' => by
    rw [addTb_W]
    split
    · rfl
    · rw [if_neg (h.root_ne_free hu hg')]
  have hE : ∀ g' r' p, G g' = some r' → p < 64 → (addTb M r k t).ent r' p = if r' = r ∧ p / 8 = k then 0 else M.ent r' p := fun g' r' p hg' hp => by
    by_cases e : r' = r ∧ p / 8 = k
    · rw [if_pos e]
      have e1 : (addTb M r k t).W r' (p / 8) = entryOf t true := by rw [hW g' r' _ hg', if_pos e]
      rw [ent_pres (by rw [e1]; exact pres_entryOf _ _), e1, numb_entryOf t true (by omega), addTb_W, if_neg (fun x => hrt x.1.symm), if_pos rfl]
    · rw [if_neg e]
      refine ent_congr (by rw [hW g' r' _ hg', if_neg e]) (fun hx' => ?_)
      rw [addTb_W, if_neg (fun x => h.tab_ne_root hg' (by omega) hx' hg x.1), if_neg (h.tab_ne_free hu hg' (by omega) hx')]
  have hEp : ∀ g' r' p, G g' = some r' → p < 64 → pres ((addTb M r k t).ent r' p) = true → (addTb M r k t).ent r' p = M.ent r' p := fun g' r' p hg' hp hx' => by
    rw [hE g' r' p hg' hp] at hx' ⊢
    split at hx'
    · cases hx'
    · rename_i e; rw [if_neg e]
  have hEq : ∀ g' r' p, G g' = some r' → p < 64 → pres (M.ent r' p) = true → (addTb M r k t).ent r' p = M.ent r' p := fun g' r' p hg' hp hx' => by
    rw [hE g' r' p hg' hp]
    split
    · rename_i e
      have e2 := h.rootI hg' (by rw [e.1]; exact hg)
      have hx2 := pres_tbl hx'
      simp only [Mm.tbl, e.1, e.2, hx] at hx2
      cases hx2
    · rfl
  have hTab : ∀ f, IsTab (addTb M r k t) G f → f = t ∨ IsTab M G f := by
    rintro f ⟨g', r', k', hg', hk', hx', hn⟩
    rw [hW g' r' k' hg'] at hx' hn
    split at hx'
    · rename_i e
      rw [if_pos e, numb_entryOf t true (by omega)] at hn
      exact Or.inl hn.symm
    · rename_i e
      rw [if_neg e] at hn
      exact Or.inr ⟨g', r', k', hg', hk', hx', hn⟩
  have hTab' : ∀ f, IsTab M G f → IsTab (addTb M r k t) G f := by
    rintro f ⟨g', r', k', hg', hk', hx', hn⟩
    refine ⟨g', r', k', hg', hk', ?_, ?_⟩
    all_goals
      rw [hW g' r' k' hg', if_neg]
      · first | exact hx' | exact hn
      · rintro ⟨e1, e2⟩
        rw [e1, e2, hx] at hx'
        cases hx'
  refine ⟨hE, ⟨h.le, ?_, h.rootI, ?_, ?_, ?_, h.hNd, ?_, ?_⟩⟩
  · intro g' r' hg'
    rw [addTb_U, if_neg (h.root_ne_free hu hg')]
    exact h.rootN hg'
  · intro g' r' k' hg' hk' hx'
    rw [hW g' r' k' hg'] at hx' ⊢
    by_cases e : r' = r ∧ k' = k
    · rw [if_pos e, numb_entryOf t true (by omega), addTb_U, if_pos rfl]
      exact ⟨ht, rfl, h.free_root hu⟩
    · rw [if_neg e] at hx' ⊢
      rw [addTb_U, if_neg (h.tab_ne_free hu hg' hk' hx')]
      exact h.tabN hg' hk' hx'
  · intro g1 r1 k1 g2 r2 k2 hg1 hk1 hx1 hg2 hk2 hx2 e
    rw [hW g1 r1 k1 hg1] at hx1 e
    rw [hW g2 r2 k2 hg2] at hx2 e
    by_cases e1 : r1 = r ∧ k1 = k
    · by_cases e2 : r2 = r ∧ k2 = k
      · exact ⟨h.rootI hg1 (by rw [hg2, e1.1, e2.1]), by omega⟩
      · rw [if_pos e1, if_neg e2, numb_entryOf t true (by omega)] at e
        rw [if_neg e2] at hx2
        exact absurd e.symm (h.tab_ne_free hu hg2 hk2 hx2)
    · rw [if_neg e1] at hx1
      by_cases e2 : r2 = r ∧ k2 = k
      · rw [if_neg e1, if_pos e2, numb_entryOf t true (by omega)] at e
        exact absurd e (h.tab_ne_free hu hg1 hk1 hx1)
      · rw [if_neg e1, if_neg e2] at e
        rw [if_neg e2] at hx2
        exact h.tabI hg1 hk1 hx1 hg2 hk2 hx2 e
  · intro g' r' p hg' hp hx'
    have e := hEp g' r' p hg' hp hx'
    rw [e] at hx' ⊢
    obtain ⟨a, b, c⟩ := h.pageN hg' hp hx'
    exact ⟨a, b, fun q => (hTab _ q).elim (h.free_page hu hg' hp hx') c⟩
  · intro f g' p
    rw [h.hIn f g' p]
    constructor
    · rintro ⟨hp, r', hg', hx', hn⟩
      have e := hEq g' r' p hg' hp hx'
      exact ⟨hp, r', hg', by rw [e]; exact hx', by rw [e]; exact hn⟩
    · rintro ⟨hp, r', hg', hx', hn⟩
      have e := hEp g' r' p hg' hp hx'
      rw [e] at hx' hn
      exact ⟨hp, r', hg', hx', hn⟩
  · intro f hf h1 h2
    have hft : f ≠ t := fun e => h2 ⟨g, r, k, hg, hk, by rw [hW g r k hg, if_pos ⟨rfl, rfl⟩]; exact pres_entryOf _ _, by rw [hW g r k hg, if_pos ⟨rfl, rfl⟩, numb_entryOf t true (by omega), e]⟩
    rw [addTb_U, if_neg hft]
    exact h.hU f hf h1 (fun q => h2 (hTab' _ q))

/-! A page is added. -/
def addPg (M : Mm) (t i f : Nat) (b : Bool) : Mm := (M.take f).setW t i (entryOf f b)
def addH (H : Hs) (f : Nat) (x : Int × Nat) : Hs := fun f' => if f' = f then x :: H f' else H f'
theorem addPg_W {M : Mm} {t i f j l : Nat} {b : Bool} : (addPg M t i f b).W j l = if j = t ∧ l = i then entryOf f b else if j = f then 0 else M.W j l := rfl
theorem addPg_U {M : Mm} {t i f j : Nat} {b : Bool} : (addPg M t i f b).U j = if j = f then 1 else M.U j := rfl

theorem Ok.addPage {M : Mm} {G : Gs} {H : Hs} (h : Ok M G H) {g : Int} {r p f : Nat} {b : Bool} (hg : G g = some r) (hp : p < 64) (hx : pres (M.W r (p / 8)) = true) (ha : pres (M.ent r p) = false) (hf : f < M.n) (hu : M.U f = 0) :
    (∀ g' r' p', G g' = some r' → p' < 64 → (addPg M (numb (M.W r (p / 8))) (p % 8) f b).ent r' p' = if r' = r ∧ p' = p then entryOf f b else M.ent r' p') ∧ Ok (addPg M (numb (M.W r (p / 8))) (p % 8) f b) G (addH H f (g, p)) := by
  have hle := h.le
  have hk8 : p / 8 < 8 := by omega
  have htn := h.tabN hg hk8 hx
  have htf : numb (M.W r (p / 8)) ≠ f := h.tab_ne_free hu hg hk8 hx
  have hW : ∀ g' r' j, G g' = some r' → (addPg M (numb (M.W r (p / 8))) (p % 8) f b).W r' j = M.W r' j := fun g' r' j hg' => by
    rw [addPg_W, if_neg (fun e => h.tab_ne_root hg hk8 hx hg' e.1.symm), if_neg (h.root_ne_free hu hg')]
  have hE : ∀ g' r' p', G g' = some r' → p' < 64 → (addPg M (numb (M.W r (p / 8))) (p % 8) f b).ent r' p' = if r' = r ∧ p' = p then entryOf f b else M.ent r' p' := fun g' r' p' hg' hp' => by
    by_cases e : r' = r ∧ p' = p
    · rw [if_pos e, e.1, e.2]
      have e1 := hW g r (p / 8) hg
      rw [ent_pres (by rw [e1]; exact hx), e1, addPg_W, if_pos ⟨rfl, rfl⟩]
    · rw [if_neg e]
      refine ent_congr (hW g' r' _ hg') (fun hx' => ?_)
      rw [addPg_W, if_neg, if_neg (h.tab_ne_free hu hg' (by omega) hx')]
      rintro ⟨e1, e2⟩
      obtain ⟨e3, e4⟩ := h.tabI hg' (by omega) hx' hg hk8 hx e1
      subst e3
      rw [hg] at hg'
      injection hg' with hg'
      exact e ⟨hg'.symm, by omega⟩
  have hTab : ∀ f', IsTab (addPg M (numb (M.W r (p / 8))) (p % 8) f b) G f' ↔ IsTab M G f' := by
    intro f'
    constructor
    · rintro ⟨g', r', k', hg', hk', hx', hn⟩
      rw [hW g' r' k' hg'] at hx' hn
      exact ⟨g', r', k', hg', hk', hx', hn⟩
    · rintro ⟨g', r', k', hg', hk', hx', hn⟩
      rw [← hW g' r' k' hg'] at hx' hn
      exact ⟨g', r', k', hg', hk', hx', hn⟩
  have hHf := h.free_hold hf hu
  refine ⟨hE, ⟨h.le, ?_, h.rootI, ?_, ?_, ?_, ?_, ?_, ?_⟩⟩
  · intro g' r' hg'
    rw [addPg_U, if_neg (h.root_ne_free hu hg')]
    exact h.rootN hg'
  · intro g' r' k' hg' hk' hx'
    rw [hW g' r' k' hg'] at hx' ⊢
    rw [addPg_U, if_neg (h.tab_ne_free hu hg' hk' hx')]
    exact h.tabN hg' hk' hx'
  · intro g1 r1 k1 g2 r2 k2 hg1 hk1 hx1 hg2 hk2 hx2 e
    rw [hW g1 r1 k1 hg1] at hx1 e
    rw [hW g2 r2 k2 hg2] at hx2 e
    exact h.tabI hg1 hk1 hx1 hg2 hk2 hx2 e
  · intro g' r' p' hg' hp' hx'
    rw [hE g' r' p' hg' hp'] at hx' ⊢
    by_cases e : r' = r ∧ p' = p
    · rw [if_pos e, numb_entryOf f b (by omega)]
      exact ⟨hf, h.free_root hu, fun q => h.free_tab hu ((hTab f).1 q)⟩
    · rw [if_neg e] at hx' ⊢
      obtain ⟨a, b, c⟩ := h.pageN hg' hp' hx'
      exact ⟨a, b, fun q => c ((hTab _).1 q)⟩
  · intro f'
    simp only [addH]
    split
    · rename_i e
      rw [e, hHf]
      simp
    · exact h.hNd f'
  · intro f' g' p'
    simp only [addH]
    by_cases e : f' = f
    · rw [if_pos e, e, hHf]
      constructor
      · intro hm
        have hm : (g', p') = (g, p) := by simpa using hm
        injection hm with e1 e2
        subst e1 e2
        refine ⟨hp, r, hg, ?_, ?_⟩
        · rw [hE g' r p' hg hp, if_pos ⟨rfl, rfl⟩]; exact pres_entryOf _ _
        · rw [hE g' r p' hg hp, if_pos ⟨rfl, rfl⟩]; exact numb_entryOf f b (by omega)
      · rintro ⟨hp', r', hg', hx', hn⟩
        rw [hE g' r' p' hg' hp'] at hx' hn
        by_cases e2 : r' = r ∧ p' = p
        · have e3 := h.rootI hg' (by rw [e2.1]; exact hg)
          rw [e3, e2.2]
          simp
        · rw [if_neg e2] at hx' hn
          exact absurd hn (h.free_page hu hg' hp' hx')
    · rw [if_neg e, h.hIn f' g' p']
      constructor
      · rintro ⟨hp', r', hg', hx', hn⟩
        have e2 : ¬ (r' = r ∧ p' = p) := fun e2 => by
          rw [e2.1, e2.2, ha] at hx'
          cases hx'
        exact ⟨hp', r', hg', by rw [hE g' r' p' hg' hp', if_neg e2]; exact hx', by rw [hE g' r' p' hg' hp', if_neg e2]; exact hn⟩
      · rintro ⟨hp', r', hg', hx', hn⟩
        rw [hE g' r' p' hg' hp'] at hx' hn
        by_cases e2 : r' = r ∧ p' = p
        · rw [if_pos e2, numb_entryOf f b (by omega)] at hn
          exact absurd hn.symm e
        · rw [if_neg e2] at hx' hn
          exact ⟨hp', r', hg', hx', hn⟩
  · intro f' hf' h1 h2
    rw [addPg_U]
    simp only [addH]
    by_cases e : f' = f
    · rw [if_pos e, if_pos e, e, hHf]
      rfl
    · rw [if_neg e, if_neg e]
      exact h.hU f' hf' h1 (fun q => h2 ((hTab _).2 q))

/-! A page is dropped. -/
def dropPg (M : Mm) (t i f : Nat) : Mm := (M.unuse f).setW t i 0
def dropH (H : Hs) (f : Nat) (x : Int × Nat) : Hs := fun f' => if f' = f then (H f').erase x else H f'
theorem dropPg_W {M : Mm} {t i f j l : Nat} : (dropPg M t i f).W j l = if j = t ∧ l = i then 0 else M.W j l := rfl
theorem dropPg_U {M : Mm} {t i f j : Nat} : (dropPg M t i f).U j = if j = f then M.U f - 1 else M.U j := rfl

theorem Ok.dropPage {M : Mm} {G : Gs} {H : Hs} (h : Ok M G H) {g : Int} {r p : Nat} (hg : G g = some r) (hp : p < 64) (hx : pres (M.ent r p) = true) :
    (∀ g' r' p', G g' = some r' → p' < 64 → (dropPg M (numb (M.W r (p / 8))) (p % 8) (numb (M.ent r p))).ent r' p' = if r' = r ∧ p' = p then 0 else M.ent r' p') ∧
    Ok (dropPg M (numb (M.W r (p / 8))) (p % 8) (numb (M.ent r p))) G (dropH H (numb (M.ent r p)) (g, p)) := by
  have hk8 : p / 8 < 8 := by omega
  have hxt : pres (M.W r (p / 8)) = true := pres_tbl hx
  obtain ⟨hf, hfr, hft⟩ := h.pageN hg hp hx
  have hmem : (g, p) ∈ H (numb (M.ent r p)) := (h.hIn _ _ _).2 ⟨hp, r, hg, hx, rfl⟩
  have hUf := h.hU _ hf hfr hft
  have hW : ∀ g' r' j, G g' = some r' → (dropPg M (numb (M.W r (p / 8))) (p % 8) (numb (M.ent r p))).W r' j = M.W r' j := fun g' r' j hg' => by
    rw [dropPg_W, if_neg (fun e => h.tab_ne_root hg hk8 hxt hg' e.1.symm)]
  have hE : ∀ g' r' p', G g' = some r' → p' < 64 → (dropPg M (numb (M.W r (p / 8))) (p % 8) (numb (M.ent r p))).ent r' p' = if r' = r ∧ p' = p then 0 else M.ent r' p' := fun g' r' p' hg' hp' => by
    by_cases e : r' = r ∧ p' = p
    · rw [if_pos e, e.1, e.2]
      have e1 := hW g r (p / 8) hg
      rw [ent_pres (by rw [e1]; exact hxt), e1, dropPg_W, if_pos ⟨rfl, rfl⟩]
    · rw [if_neg e]
      refine ent_congr (hW g' r' _ hg') (fun hx' => ?_)
      rw [dropPg_W, if_neg]
      rintro ⟨e1, e2⟩
      obtain ⟨e3, e4⟩ := h.tabI hg' (by omega) hx' hg hk8 hxt e1
      subst e3
      rw [hg] at hg'
      injection hg' with hg'
      exact e ⟨hg'.symm, by omega⟩
  have hTab : ∀ f', IsTab (dropPg M (numb (M.W r (p / 8))) (p % 8) (numb (M.ent r p))) G f' ↔ IsTab M G f' := by
    intro f'
    constructor
    · rintro ⟨g', r', k', hg', hk', hx', hn⟩
      rw [hW g' r' k' hg'] at hx' hn
      exact ⟨g', r', k', hg', hk', hx', hn⟩
    · rintro ⟨g', r', k', hg', hk', hx', hn⟩
      rw [← hW g' r' k' hg'] at hx' hn
      exact ⟨g', r', k', hg', hk', hx', hn⟩
  generalize hff : numb (M.ent r p) = f at *
  refine ⟨hE, ⟨h.le, ?_, h.rootI, ?_, ?_, ?_, ?_, ?_, ?_⟩⟩
  · intro g' r' hg'
    rw [dropPg_U, if_neg (fun e => hfr ⟨g', by rw [hg', e]⟩)]
    exact h.rootN hg'
  · intro g' r' k' hg' hk' hx'
    rw [hW g' r' k' hg'] at hx' ⊢
    rw [dropPg_U, if_neg (fun e => hft ⟨g', r', k', hg', hk', hx', e⟩)]
    exact h.tabN hg' hk' hx'
  · intro g1 r1 k1 g2 r2 k2 hg1 hk1 hx1 hg2 hk2 hx2 e
    rw [hW g1 r1 k1 hg1] at hx1 e
    rw [hW g2 r2 k2 hg2] at hx2 e
    exact h.tabI hg1 hk1 hx1 hg2 hk2 hx2 e
  · intro g' r' p' hg' hp' hx'
    rw [hE g' r' p' hg' hp'] at hx' ⊢
    by_cases e : r' = r ∧ p' = p
    · rw [if_pos e] at hx'
      cases hx'
    · rw [if_neg e] at hx' ⊢
      obtain ⟨a, b, c⟩ := h.pageN hg' hp' hx'
      exact ⟨a, b, fun q => c ((hTab _).1 q)⟩
  · intro f'
    simp only [dropH]
    split
    · exact (h.hNd f').erase _
    · exact h.hNd f'
  · intro f' g' p'
    have key : ((g', p') ∈ H f' ∧ ¬ (f' = f ∧ (g', p') = (g, p))) ↔ p' < 64 ∧ ∃ r', G g' = some r' ∧ pres ((dropPg M (numb (M.W r (p / 8))) (p % 8) f).ent r' p') = true ∧ numb ((dropPg M (numb (M.W r (p / 8))) (p % 8) f).ent r' p') = f' := by
      rw [h.hIn f' g' p']
      constructor
      · rintro ⟨⟨hp', r', hg', hx', hn⟩, hne⟩
        have e2 : ¬ (r' = r ∧ p' = p) := fun e2 => by
          refine hne ⟨?_, ?_⟩
          · rw [← hn, e2.1, e2.2, hff]
          · rw [e2.2, h.rootI hg' (by rw [e2.1]; exact hg)]
        exact ⟨hp', r', hg', by rw [hE g' r' p' hg' hp', if_neg e2]; exact hx', by rw [hE g' r' p' hg' hp', if_neg e2]; exact hn⟩
      · rintro ⟨hp', r', hg', hx', hn⟩
        rw [hE g' r' p' hg' hp'] at hx' hn
        by_cases e2 : r' = r ∧ p' = p
        · rw [if_pos e2] at hx'
          cases hx'
        · rw [if_neg e2] at hx' hn
          refine ⟨⟨hp', r', hg', hx', hn⟩, ?_⟩
          rintro ⟨_, e3⟩
          injection e3 with e4 e5
          subst e4 e5
          rw [hg] at hg'
          injection hg' with hg'
          exact e2 ⟨hg'.symm, rfl⟩
    rw [← key]
    simp only [dropH]
    by_cases e : f' = f
    · rw [if_pos e, (h.hNd f').mem_erase_iff]
      constructor
      · rintro ⟨a, b⟩
        exact ⟨b, fun q => a q.2⟩
      · rintro ⟨a, b⟩
        exact ⟨fun q => b ⟨e, q⟩, a⟩
    · rw [if_neg e]
      constructor
      · intro a
        exact ⟨a, fun q => e q.1⟩
      · exact fun a => a.1
  · intro f' hf' h1 h2
    rw [dropPg_U]
    simp only [dropH]
    by_cases e : f' = f
    · rw [if_pos e, if_pos e, e, List.length_erase_of_mem hmem, hUf]
      have := List.length_pos_of_mem hmem
      omega
    · rw [if_neg e, if_neg e]
      exact h.hU f' hf' h1 (fun q => h2 ((hTab _).2 q))

/-! A table without pages is dropped. -/
def dropTb (M : Mm) (r k t : Nat) : Mm := (M.unuse t).setW r k 0
theorem dropTb_W {M : Mm} {r k t j l : Nat} : (dropTb M r k t).W j l = if j = r ∧ l = k then 0 else M.W j l := rfl
theorem dropTb_U {M : Mm} {r k t j : Nat} : (dropTb M r k t).U j = if j = t then M.U t - 1 else M.U j := rfl

theorem Ok.dropTab {M : Mm} {G : Gs} {H : Hs} (h : Ok M G H) {g : Int} {r k : Nat} (hg : G g = some r) (hk : k < 8) (hx : pres (M.W r k) = true) (hn : ∀ i, i < 8 → pres (M.W (numb (M.W r k)) i) = false) :
    (∀ g' r' p', G g' = some r' → p' < 64 → (dropTb M r k (numb (M.W r k))).ent r' p' = if r' = r ∧ p' / 8 = k then 0 else M.ent r' p') ∧ Ok (dropTb M r k (numb (M.W r k))) G H := by
  obtain ⟨ht, htu, htr⟩ := h.tabN hg hk hx
  have hW : ∀ g' r' j, G g' = some r' → (dropTb M r k (numb (M.W r k))).W r' j = if r' = r ∧ j = k then 0 else M.W r' j := fun g' r' j hg' => dropTb_W
  have hE : ∀ g' r' p', G g' = some r' → p' < 64 → (dropTb M r k (numb (M.W r k))).ent r' p' = if r' = r ∧ p' / 8 = k then 0 else M.ent r' p' := fun g' r' p' hg' hp' => by
    by_cases e : r' = r ∧ p' / 8 = k
    · rw [if_pos e]
      have e1 := hW g' r' (p' / 8) hg'
      rw [if_pos e] at e1
      rw [ent_abs (by rw [e1]; rfl), e1]
    · rw [if_neg e]
      refine ent_congr (by rw [hW g' r' _ hg', if_neg e]) (fun hx' => ?_)
      rw [dropTb_W, if_neg (fun q => h.tab_ne_root hg' (by omega) hx' hg q.1)]
  have hA : ∀ r' p', r' = r ∧ p' / 8 = k → pres (M.ent r' p') = false := fun r' p' e => by
    have hx2 : pres (M.W r' (p' / 8)) = true := by rw [e.1, e.2]; exact hx
    rw [ent_pres hx2, e.1, e.2]
    exact hn (p' % 8) (by omega)
  have hEp : ∀ g' r' p', G g' = some r' → p' < 64 → pres (M.ent r' p') = true → (dropTb M r k (numb (M.W r k))).ent r' p' = M.ent r' p' := fun g' r' p' hg' hp' hx' => by
    rw [hE g' r' p' hg' hp', if_neg (fun e => by rw [hA r' p' e] at hx'; cases hx')]
  have hEq : ∀ g' r' p', G g' = some r' → p' < 64 → pres ((dropTb M r k (numb (M.W r k))).ent r' p') = true → (dropTb M r k (numb (M.W r k))).ent r' p' = M.ent r' p' := fun g' r' p' hg' hp' hx' => by
    rw [hE g' r' p' hg' hp'] at hx' ⊢
    split at hx'
    · cases hx'
    · rename_i e; rw [if_neg e]
  have hTab : ∀ f', IsTab (dropTb M r k (numb (M.W r k))) G f' → IsTab M G f' ∧ f' ≠ numb (M.W r k) := by
    rintro f' ⟨g', r', k', hg', hk', hx', hn'⟩
    rw [hW g' r' k' hg'] at hx' hn'
    split at hx'
    · cases hx'
    · rename_i e
      rw [if_neg e] at hn'
      refine ⟨⟨g', r', k', hg', hk', hx', hn'⟩, fun q => ?_⟩
      obtain ⟨e3, e4⟩ := h.tabI hg' hk' hx' hg hk hx (by rw [hn', q])
      subst e3
      rw [hg] at hg'
      injection hg' with hg'
      exact e ⟨hg'.symm, e4⟩
  have hTab' : ∀ f', IsTab M G f' → f' ≠ numb (M.W r k) → IsTab (dropTb M r k (numb (M.W r k))) G f' := by
    rintro f' ⟨g', r', k', hg', hk', hx', hn'⟩ hne
    have e : ¬ (r' = r ∧ k' = k) := fun e => hne (by rw [← hn', e.1, e.2])
    exact ⟨g', r', k', hg', hk', by rw [hW g' r' k' hg', if_neg e]; exact hx', by rw [hW g' r' k' hg', if_neg e]; exact hn'⟩
  generalize htt : numb (M.W r k) = t at *
  refine ⟨hE, ⟨h.le, ?_, h.rootI, ?_, ?_, ?_, h.hNd, ?_, ?_⟩⟩
  · intro g' r' hg'
    rw [dropTb_U, if_neg (fun e => htr ⟨g', by rw [hg', e]⟩)]
    exact h.rootN hg'
  · intro g' r' k' hg' hk' hx'
    have hd := hTab _ ⟨g', r', k', hg', hk', hx', rfl⟩
    rw [hW g' r' k' hg'] at hx' hd ⊢
    split at hx'
    · cases hx'
    · rename_i e
      rw [if_neg e] at hd ⊢
      rw [dropTb_U, if_neg hd.2]
      exact h.tabN hg' hk' hx'
  · intro g1 r1 k1 g2 r2 k2 hg1 hk1 hx1 hg2 hk2 hx2 e
    rw [hW g1 r1 k1 hg1] at hx1 e
    rw [hW g2 r2 k2 hg2] at hx2 e
    split at hx1
    · cases hx1
    · rename_i e1
      split at hx2
      · cases hx2
      · rename_i e2
        rw [if_neg e1, if_neg e2] at e
        exact h.tabI hg1 hk1 hx1 hg2 hk2 hx2 e
  · intro g' r' p' hg' hp' hx'
    have e := hEq g' r' p' hg' hp' hx'
    rw [e] at hx' ⊢
    obtain ⟨a, b, c⟩ := h.pageN hg' hp' hx'
    exact ⟨a, b, fun q => c (hTab _ q).1⟩
  · intro f' g' p'
    rw [h.hIn f' g' p']
    constructor
    · rintro ⟨hp', r', hg', hx', hn'⟩
      have e := hEp g' r' p' hg' hp' hx'
      exact ⟨hp', r', hg', by rw [e]; exact hx', by rw [e]; exact hn'⟩
    · rintro ⟨hp', r', hg', hx', hn'⟩
      have e := hEq g' r' p' hg' hp' hx'
      rw [e] at hx' hn'
      exact ⟨hp', r', hg', hx', hn'⟩
  · intro f' hf' h1 h2
    rw [dropTb_U]
    by_cases e : f' = t
    · rw [if_pos e, htu, e]
      have : H t = [] := by
        apply List.eq_nil_iff_forall_not_mem.2
        rintro ⟨g', p'⟩ hm
        obtain ⟨hp', r', hg', hx', hn'⟩ := (h.hIn t g' p').1 hm
        exact (h.pageN hg' hp' hx').2.2 ⟨g, r, k, hg, hk, hx, by rw [htt, hn']⟩
      rw [this]
      rfl
    · rw [if_neg e]
      exact h.hU f' hf' h1 (fun q => h2 (hTab' _ q e))

/-! A root is added, and dropped. -/
def addRt (M : Mm) (i : Nat) : Mm := M.take i
theorem addRt_W {M : Mm} {i j l : Nat} : (M.take i).W j l = if j = i then 0 else M.W j l := rfl
theorem addRt_U {M : Mm} {i j : Nat} : (M.take i).U j = if j = i then 1 else M.U j := rfl

theorem Ok.addRoot {M : Mm} {G : Gs} {H : Hs} (h : Ok M G H) {g : Int} {i : Nat} (hg : G g = none) (hi : i < M.n) (hu : M.U i = 0) :
    (∀ g' r' p', G g' = some r' → p' < 64 → (M.take i).ent r' p' = M.ent r' p') ∧ (∀ p', (M.take i).ent i p' = 0) ∧ Ok (M.take i) (fun j => if j = g then some i else G j) H := by
  have hG : ∀ {g' r'}, (if g' = g then some i else G g') = some r' → (g' = g ∧ r' = i) ∨ (g' ≠ g ∧ G g' = some r') := fun {g' r'} q => by
    by_cases e : g' = g
    · rw [if_pos e] at q
      injection q with q
      exact Or.inl ⟨e, q.symm⟩
    · rw [if_neg e] at q
      exact Or.inr ⟨e, q⟩
  have hG' : ∀ {g' r'}, G g' = some r' → (if g' = g then some i else G g') = some r' := fun {g' r'} q => by
    rw [if_neg (fun e => by rw [e, hg] at q; cases q)]
    exact q
  have hW0 : ∀ j, (M.take i).W i j = 0 := fun j => by rw [addRt_W, if_pos rfl]
  have hW : ∀ g' r' j, G g' = some r' → (M.take i).W r' j = M.W r' j := fun g' r' j hg' => by
    rw [addRt_W, if_neg (h.root_ne_free hu hg')]
  have hE0 : ∀ p', (M.take i).ent i p' = 0 := fun p' => by
    rw [ent_abs (by rw [hW0]; rfl), hW0]
  have hE : ∀ g' r' p', G g' = some r' → p' < 64 → (M.take i).ent r' p' = M.ent r' p' := fun g' r' p' hg' hp' => by
    refine ent_congr (hW g' r' _ hg') (fun hx' => ?_)
    rw [addRt_W, if_neg (h.tab_ne_free hu hg' (by omega) hx')]
  have hR : ∀ f, IsRoot (fun j => if j = g then some i else G j) f → f = i ∨ IsRoot G f := by
    rintro f ⟨g', q⟩
    rcases hG q with ⟨_, e⟩ | ⟨_, e⟩
    · exact Or.inl e
    · exact Or.inr ⟨g', e⟩
  have hTab : ∀ f, IsTab (M.take i) (fun j => if j = g then some i else G j) f ↔ IsTab M G f := by
    intro f
    constructor
    · rintro ⟨g', r', k', hg', hk', hx', hn⟩
      rcases hG hg' with ⟨_, e⟩ | ⟨_, e⟩
      · rw [e, hW0] at hx'
        cases hx'
      · rw [hW g' r' k' e] at hx' hn
        exact ⟨g', r', k', e, hk', hx', hn⟩
    · rintro ⟨g', r', k', hg', hk', hx', hn⟩
      rw [← hW g' r' k' hg'] at hx' hn
      exact ⟨g', r', k', hG' hg', hk', hx', hn⟩
  refine ⟨hE, hE0, ⟨h.le, ?_, ?_, ?_, ?_, ?_, h.hNd, ?_, ?_⟩⟩
  · intro g' r' q
    rcases hG q with ⟨_, e⟩ | ⟨_, e⟩
    · rw [e, addRt_U, if_pos rfl]
      exact ⟨hi, rfl⟩
    · rw [addRt_U, if_neg (h.root_ne_free hu e)]
      exact h.rootN e
  · intro g1 g2 r' q1 q2
    rcases hG q1 with ⟨a1, e1⟩ | ⟨a1, e1⟩
    · rcases hG q2 with ⟨a2, e2⟩ | ⟨a2, e2⟩
      · rw [a1, a2]
      · exact absurd e1 (h.root_ne_free hu e2)
    · rcases hG q2 with ⟨a2, e2⟩ | ⟨a2, e2⟩
      · exact absurd e2 (h.root_ne_free hu e1)
      · exact h.rootI e1 e2
  · intro g' r' k' q hk' hx'
    rcases hG q with ⟨_, e⟩ | ⟨_, e⟩
    · rw [e, hW0] at hx'
      cases hx'
    · rw [hW g' r' k' e] at hx' ⊢
      rw [addRt_U, if_neg (h.tab_ne_free hu e hk' hx')]
      obtain ⟨a, b, c⟩ := h.tabN e hk' hx'
      exact ⟨a, b, fun q' => (hR _ q').elim (h.tab_ne_free hu e hk' hx') c⟩
  · intro g1 r1 k1 g2 r2 k2 q1 hk1 hx1 q2 hk2 hx2 e
    rcases hG q1 with ⟨_, e1⟩ | ⟨_, e1⟩
    · rw [e1, hW0] at hx1
      cases hx1
    · rcases hG q2 with ⟨_, e2⟩ | ⟨_, e2⟩
      · rw [e2, hW0] at hx2
        cases hx2
      · rw [hW g1 r1 k1 e1] at hx1 e
        rw [hW g2 r2 k2 e2] at hx2 e
        exact h.tabI e1 hk1 hx1 e2 hk2 hx2 e
  · intro g' r' p' q hp' hx'
    rcases hG q with ⟨_, e⟩ | ⟨_, e⟩
    · rw [e, hE0] at hx'
      cases hx'
    · rw [hE g' r' p' e hp'] at hx' ⊢
      obtain ⟨a, b, c⟩ := h.pageN e hp' hx'
      exact ⟨a, fun q' => (hR _ q').elim (h.free_page hu e hp' hx') b, fun q' => c ((hTab _).1 q')⟩
  · intro f g' p'
    rw [h.hIn f g' p']
    constructor
    · rintro ⟨hp', r', hg', hx', hn⟩
      exact ⟨hp', r', hG' hg', by rw [hE g' r' p' hg' hp']; exact hx', by rw [hE g' r' p' hg' hp']; exact hn⟩
    · rintro ⟨hp', r', q, hx', hn⟩
      rcases hG q with ⟨_, e⟩ | ⟨_, e⟩
      · rw [e, hE0] at hx'
        cases hx'
      · rw [hE g' r' p' e hp'] at hx' hn
        exact ⟨hp', r', e, hx', hn⟩
  · intro f hf h1 h2
    have hfi : f ≠ i := fun e => h1 ⟨g, by simp [e]⟩
    rw [addRt_U, if_neg hfi]
    refine h.hU f hf (fun ⟨g', q⟩ => h1 ⟨g', hG' q⟩) (fun q => h2 ((hTab _).2 q))

theorem Ok.dropRoot {M : Mm} {G : Gs} {H : Hs} (h : Ok M G H) {g : Int} {r : Nat} (hg : G g = some r) (hn : ∀ k, k < 8 → pres (M.W r k) = false) :
    (∀ r' p', (M.unuse r).ent r' p' = M.ent r' p') ∧ Ok (M.unuse r) (fun j => if j = g then none else G j) H := by
  have hG : ∀ {g' r'}, (if g' = g then none else G g') = some r' → g' ≠ g ∧ G g' = some r' := fun {g' r'} q => by
    by_cases e : g' = g
    · rw [if_pos e] at q
      cases q
    · rw [if_neg e] at q
      exact ⟨e, q⟩
  have hG' : ∀ {g' r'}, g' ≠ g → G g' = some r' → (if g' = g then none else G g') = some r' := fun {g' r'} e q => by rw [if_neg e]; exact q
  have hU : ∀ j, (M.unuse r).U j = if j = r then M.U r - 1 else M.U j := fun _ => rfl
  have hR : ∀ f, IsRoot (fun j => if j = g then none else G j) f → IsRoot G f ∧ f ≠ r := by
    rintro f ⟨g', q⟩
    obtain ⟨a, b⟩ := hG q
    exact ⟨⟨g', b⟩, fun e => a (h.rootI b (by rw [e]; exact hg))⟩
  have hTab : ∀ f, IsTab (M.unuse r) (fun j => if j = g then none else G j) f ↔ IsTab M G f := by
    intro f
    constructor
    · rintro ⟨g', r', k', q, hk', hx', hn'⟩
      exact ⟨g', r', k', (hG q).2, hk', hx', hn'⟩
    · rintro ⟨g', r', k', q, hk', hx', hn'⟩
      refine ⟨g', r', k', hG' (fun e => ?_) q, hk', hx', hn'⟩
      rw [e, hg] at q
      injection q with q
      rw [← q, hn k' hk'] at hx'
      cases hx'
  refine ⟨fun _ _ => rfl, ⟨h.le, ?_, ?_, ?_, ?_, ?_, h.hNd, ?_, ?_⟩⟩
  · intro g' r' q
    obtain ⟨a, b⟩ := hG q
    rw [hU, if_neg (fun e => a (h.rootI b (by rw [e]; exact hg)))]
    exact h.rootN b
  · intro g1 g2 r' q1 q2
    exact h.rootI (hG q1).2 (hG q2).2
  · intro g' r' k' q hk' hx'
    obtain ⟨a, b, c⟩ := h.tabN (hG q).2 hk' hx'
    have e : numb (M.W r' k') ≠ r := h.tab_ne_root (hG q).2 hk' hx' hg
    refine ⟨a, ?_, fun q' => c (hR _ q').1⟩
    show (M.unuse r).U (numb (M.W r' k')) = 1
    rw [hU, if_neg e]
    exact b
  · intro g1 r1 k1 g2 r2 k2 q1 hk1 hx1 q2 hk2 hx2 e
    exact h.tabI (hG q1).2 hk1 hx1 (hG q2).2 hk2 hx2 e
  · intro g' r' p' q hp' hx'
    obtain ⟨a, b, c⟩ := h.pageN (hG q).2 hp' hx'
    exact ⟨a, fun q' => b (hR _ q').1, fun q' => c ((hTab _).1 q')⟩
  · intro f g' p'
    rw [h.hIn f g' p']
    constructor
    · rintro ⟨hp', r', q, hx', hn'⟩
      refine ⟨hp', r', hG' (fun e => ?_) q, hx', hn'⟩
      rw [e, hg] at q
      injection q with q
      have := pres_tbl hx'
      rw [← q] at this
      simp only [Mm.tbl, hn (p' / 8) (by omega)] at this
      cases this
    · rintro ⟨hp', r', q, hx', hn'⟩
      exact ⟨hp', r', (hG q).2, hx', hn'⟩
  · intro f hf h1 h2
    rw [hU]
    by_cases e : f = r
    · rw [if_pos e, (h.rootN hg).2]
      have : H f = [] := by
        apply List.eq_nil_iff_forall_not_mem.2
        rintro ⟨g', p'⟩ hm
        obtain ⟨hp', r', hg', hx', hn'⟩ := (h.hIn f g' p').1 hm
        exact (h.pageN hg' hp' hx').2.1 ⟨g, by rw [hn', e]; exact hg⟩
      rw [this]
      rfl
    · rw [if_neg e]
      refine h.hU f hf (fun ⟨g', q⟩ => h1 ⟨g', hG' (fun e2 => ?_) q⟩) (fun q => h2 ((hTab _).2 q))
      rw [e2, hg] at q
      injection q with q
      exact e q.symm
end Go.Proofs.YtfcepnhknmbaaaaGreat
