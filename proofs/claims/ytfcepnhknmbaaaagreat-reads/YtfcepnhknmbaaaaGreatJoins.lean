/- A frame that is a page already gets one holder more: what is joined keeps the invariant of frames; what it does to pages and to free frames. -/
import Derived.Test.YtfcepnhknmbaaaaGreatTurnsM
namespace Go.Proofs.YtfcepnhknmbaaaaGreat

def shPg (M : Mm) (t i f : Nat) (b : Bool) : Mm := (M.hold f).setW t i (entryOf f b)
theorem shPg_W {M : Mm} {t i f j l : Nat} {b : Bool} : (shPg M t i f b).W j l = if j = t ∧ l = i then entryOf f b else M.W j l := rfl
theorem shPg_U {M : Mm} {t i f j : Nat} {b : Bool} : (shPg M t i f b).U j = if j = f then M.U f + 1 else M.U j := rfl

/-- The frame is a page of some guest. -/
def IsPage (M : Mm) (G : Gs) (f : Nat) : Prop := ∃ g r p, G g = some r ∧ p < 64 ∧ pres (M.ent r p) = true ∧ numb (M.ent r p) = f

theorem Ok.sharePage {M : Mm} {G : Gs} {H : Hs} (h : Ok M G H) {g : Int} {r p f : Nat} {b : Bool} (hg : G g = some r) (hp : p < 64) (hx : pres (M.W r (p / 8)) = true) (ha : pres (M.ent r p) = false) (hf : IsPage M G f) :
    (∀ g' r' p', G g' = some r' → p' < 64 → (shPg M (numb (M.W r (p / 8))) (p % 8) f b).ent r' p' = if r' = r ∧ p' = p then entryOf f b else M.ent r' p') ∧ Ok (shPg M (numb (M.W r (p / 8))) (p % 8) f b) G (addH H f (g, p)) := by
  have hle := h.le
  obtain ⟨g0, r0, p0, hg0, hp0, hx0, hn0⟩ := hf
  obtain ⟨hfn, hfr, hft⟩ := h.pageN hg0 hp0 hx0
  rw [hn0] at hfn hfr hft
  have hrf : ∀ {g' r'}, G g' = some r' → r' ≠ f := fun {g' r'} q e => hfr ⟨g', by rw [q, e]⟩
  have htf : ∀ {g' r' k}, G g' = some r' → k < 8 → pres (M.W r' k) = true → numb (M.W r' k) ≠ f := fun {g' r' k} q hk q2 e => hft ⟨g', r', k, q, hk, q2, e⟩
  have hk8 : p / 8 < 8 := by omega
  have htn := h.tabN hg hk8 hx
  have hW : ∀ g' r' j, G g' = some r' → (shPg M (numb (M.W r (p / 8))) (p % 8) f b).W r' j = M.W r' j := fun g' r' j hg' => by
    rw [shPg_W, if_neg (fun e => h.tab_ne_root hg hk8 hx hg' e.1.symm)]
  have hE : ∀ g' r' p', G g' = some r' → p' < 64 → (shPg M (numb (M.W r (p / 8))) (p % 8) f b).ent r' p' = if r' = r ∧ p' = p then entryOf f b else M.ent r' p' := fun g' r' p' hg' hp' => by
    by_cases e : r' = r ∧ p' = p
    · rw [if_pos e, e.1, e.2]
      have e1 := hW g r (p / 8) hg
      rw [ent_pres (by rw [e1]; exact hx), e1, shPg_W, if_pos ⟨rfl, rfl⟩]
    · rw [if_neg e]
      refine ent_congr (hW g' r' _ hg') (fun hx' => ?_)
      rw [shPg_W, if_neg]
      rintro ⟨e1, e2⟩
      obtain ⟨e3, e4⟩ := h.tabI hg' (by omega) hx' hg hk8 hx e1
      subst e3
      rw [hg] at hg'
      injection hg' with hg'
      exact e ⟨hg'.symm, by omega⟩
  have hTab : ∀ f', IsTab (shPg M (numb (M.W r (p / 8))) (p % 8) f b) G f' ↔ IsTab M G f' := by
    intro f'
    constructor
    · rintro ⟨g', r', k', hg', hk', hx', hn⟩
      rw [hW g' r' k' hg'] at hx' hn
      exact ⟨g', r', k', hg', hk', hx', hn⟩
    · rintro ⟨g', r', k', hg', hk', hx', hn⟩
      rw [← hW g' r' k' hg'] at hx' hn
      exact ⟨g', r', k', hg', hk', hx', hn⟩
  refine ⟨hE, ⟨h.le, ?_, h.rootI, ?_, ?_, ?_, ?_, ?_, ?_⟩⟩
  · intro g' r' hg'
    rw [shPg_U, if_neg (hrf hg')]
    exact h.rootN hg'
  · intro g' r' k' hg' hk' hx'
    rw [hW g' r' k' hg'] at hx' ⊢
    rw [shPg_U, if_neg (htf hg' hk' hx')]
    exact h.tabN hg' hk' hx'
  · intro g1 r1 k1 g2 r2 k2 hg1 hk1 hx1 hg2 hk2 hx2 e
    rw [hW g1 r1 k1 hg1] at hx1 e
    rw [hW g2 r2 k2 hg2] at hx2 e
    exact h.tabI hg1 hk1 hx1 hg2 hk2 hx2 e
  · intro g' r' p' hg' hp' hx'
    rw [hE g' r' p' hg' hp'] at hx' ⊢
    by_cases e : r' = r ∧ p' = p
    · rw [if_pos e, numb_entryOf f b (by omega)]
      exact ⟨hfn, hfr, fun q => hft ((hTab f).1 q)⟩
    · rw [if_neg e] at hx' ⊢
      obtain ⟨a, b, c⟩ := h.pageN hg' hp' hx'
      exact ⟨a, b, fun q => c ((hTab _).1 q)⟩
  · intro f'
    simp only [addH]
    split
    · refine List.nodup_cons.2 ⟨fun hm => ?_, h.hNd f'⟩
      obtain ⟨_, r', hg', hx', _⟩ := (h.hIn _ _ _).1 hm
      rw [hg] at hg'
      injection hg' with hg'
      rw [← hg', ha] at hx'
      cases hx'
    · exact h.hNd f'
  · intro f' g' p'
    simp only [addH]
    by_cases e : f' = f
    · rw [if_pos e, List.mem_cons, h.hIn f' g' p']
      constructor
      · rintro (hm | ⟨hp', r', hg', hx', hn⟩)
        · injection hm with e1 e2
          subst e1 e2
          refine ⟨hp, r, hg, ?_, ?_⟩
          · rw [hE g' r p' hg hp, if_pos ⟨rfl, rfl⟩]; exact pres_entryOf _ _
          · rw [hE g' r p' hg hp, if_pos ⟨rfl, rfl⟩, e]; exact numb_entryOf f b (by omega)
        · have e2 : ¬ (r' = r ∧ p' = p) := fun e2 => by
            rw [e2.1, e2.2, ha] at hx'
            cases hx'
          exact ⟨hp', r', hg', by rw [hE g' r' p' hg' hp', if_neg e2]; exact hx', by rw [hE g' r' p' hg' hp', if_neg e2]; exact hn⟩
      · rintro ⟨hp', r', hg', hx', hn⟩
        rw [hE g' r' p' hg' hp'] at hx' hn
        by_cases e2 : r' = r ∧ p' = p
        · have e3 := h.rootI hg' (by rw [e2.1]; exact hg)
          exact Or.inl (by rw [e3, e2.2])
        · rw [if_neg e2] at hx' hn
          exact Or.inr ⟨hp', r', hg', hx', hn⟩
    · rw [if_neg e, h.hIn f' g' p']
      constructor
      · rintro ⟨hp', r', hg', hx', hn⟩
        have e2 : ¬ (r' = r ∧ p' = p) := fun e2 => by
          rw [e2.1, e2.2, ha] at hx'
          cases hx'
        exact ⟨hp', r', hg', by rw [hE g' r' p' hg' hp', if_neg e2]; exact hx', by rw [hE g' r' p' hg' hp', if_neg e2]; exact hn⟩
      · rintro ⟨hp', r', hg', hx', hn⟩
        rw [hE g' r' p' hg' hp'] at hx' hn
        by_cases e2 : r' = r ∧ p' = p
        · rw [if_pos e2, numb_entryOf f b (by omega)] at hn
          exact absurd hn.symm e
        · rw [if_neg e2] at hx' hn
          exact ⟨hp', r', hg', hx', hn⟩
  · intro f' hf' h1 h2
    rw [shPg_U]
    simp only [addH]
    have h3 := h.hU f' hf' h1 (fun q => h2 ((hTab _).2 q))
    by_cases e : f' = f
    · rw [if_pos e, if_pos e, ← e, h3]
      simp
    · rw [if_neg e, if_neg e]
      exact h3

/-- A page has got one place more. -/
structure Joined (M M' : Mm) (G : Gs) (H : Hs) (g : Int) (r p f : Nat) (b : Bool) : Prop where
  n : M'.n = M.n
  ok : Ok M' G (addH H f (g, p))
  full : Full M' G
  en : M'.ent r p = entryOf f b
  oth : Others M M' G r p

theorem hold_free {M : Mm} {f : Nat} (hf : f < M.n) (h1 : 1 ≤ M.U f) : (M.hold f).free = M.free := by
  have := freeTo_upd (U := M.U) (v := M.U f + 1) hf
  rw [if_neg (by omega), if_neg (by omega)] at this
  exact this

theorem IsPage.used {M : Mm} {G : Gs} {H : Hs} (h : Ok M G H) {f : Nat} (hf : IsPage M G f) : f < M.n ∧ 1 ≤ M.U f ∧ ¬ IsRoot G f ∧ ¬ IsTab M G f := by
  obtain ⟨g0, r0, p0, hg0, hp0, hx0, hn0⟩ := hf
  obtain ⟨a, b, c⟩ := h.pageN hg0 hp0 hx0
  have := h.pageU hg0 hp0 hx0
  rw [hn0] at a b c this
  exact ⟨a, this, b, c⟩

theorem joined_had {M : Mm} {G : Gs} {H : Hs} (h : Ok M G H) (hfu : Full M G) {g : Int} {r p f : Nat} (b : Bool) (hg : G g = some r) (hp : p < 64) (ha : pres (M.ent r p) = false) (hx : pres (M.tbl r p) = true) (hf : IsPage M G f) :
    Joined M ((M.hold f).entered r p f b) G H g r p f b ∧ ((M.hold f).entered r p f b).free = M.free := by
  obtain ⟨hfn, hfu1, hfr, hft⟩ := hf.used h
  have he : (M.hold f).entered r p f b = shPg M (numb (M.W r (p / 8))) (p % 8) f b := rfl
  have hk8 : p / 8 < 8 := by omega
  obtain ⟨hE, hO⟩ := h.sharePage (b := b) hg hp hx ha hf
  have hWr : ∀ g' r' j, G g' = some r' → (shPg M (numb (M.W r (p / 8))) (p % 8) f b).W r' j = M.W r' j := fun g' r' j hg' => by
    rw [shPg_W, if_neg (fun e => h.tab_ne_root hg hk8 hx hg' e.1.symm)]
  rw [he]
  refine ⟨⟨rfl, hO, ?_, ?_, ⟨?_, ?_, ?_⟩⟩, ?_⟩
  · intro g' r' k hg' hk hx'
    rw [hWr g' r' k hg'] at hx' ⊢
    obtain ⟨i, hi, hy⟩ := hfu g' r' k hg' hk hx'
    refine ⟨i, hi, ?_⟩
    rw [shPg_W]
    split
    · exact pres_entryOf _ _
    · exact hy
  · rw [hE g r p hg hp, if_pos ⟨rfl, rfl⟩]
  · intro g' r' p' hg' hp' hne
    rw [hE g' r' p' hg' hp', if_neg hne]
  · intro g' r' p' hg' hp' hne _
    rw [hE g' r' p' hg' hp', if_neg hne]
  · intro g' r' p' hg' hp' hx' k
    rw [shPg_W, if_neg (fun e => (h.pageN hg' hp' hx').2.2 ⟨g, r, p / 8, hg, hk8, hx, e.1.symm⟩)]
  · exact hold_free hfn hfu1

theorem joined_new {M : Mm} {G : Gs} {H : Hs} (h : Ok M G H) (hfu : Full M G) {g : Int} {r p f t : Nat} (b : Bool) (hg : G g = some r) (hp : p < 64) (hx : pres (M.tbl r p) = false) (hf : IsPage M G f) (ht : (M.hold f).first = some t) :
    Joined M (((M.hold f).tabled r p t).entered r p f b) G H g r p f b ∧ (((M.hold f).tabled r p t).entered r p f b).free + 1 = M.free := by
  obtain ⟨hfn, hfu1, hfr, hft⟩ := hf.used h
  obtain ⟨htn, htu⟩ := first_lt ht
  have htn : t < M.n := htn
  have hle := h.le
  have hk8 : p / 8 < 8 := by omega
  have hUh : ∀ j, (M.hold f).U j = if j = f then M.U f + 1 else M.U j := fun _ => rfl
  have htf : t ≠ f := fun e => by
    rw [e, hUh, if_pos rfl] at htu
    omega
  have htu' : M.U t = 0 := by
    rw [hUh, if_neg htf] at htu
    exact htu
  have hrt := h.root_ne_free htu' hg
  have he : ((M.hold f).tabled r p t).entered r p f b = shPg (addTb M r (p / 8) t) t (p % 8) f b := by
    have e1 : numb (((M.hold f).tabled r p t).tbl r p) = t := by rw [tabled_tbl, numb_entryOf t true (by omega)]
    have e0 : ((M.hold f).tabled r p t).entered r p f b = ((M.hold f).tabled r p t).setW t (p % 8) (entryOf f b) := by
      unfold Mm.entered
      rw [e1]
    have eW : ∀ j l, (((M.hold f).tabled r p t).entered r p f b).W j l = (shPg (addTb M r (p / 8) t) t (p % 8) f b).W j l := fun j l => by
      rw [e0]
      rfl
    have eU : ∀ j, (((M.hold f).tabled r p t).entered r p f b).U j = (shPg (addTb M r (p / 8) t) t (p % 8) f b).U j := fun j => by
      rw [shPg_U, addTb_U, addTb_U]
      show ((M.hold f).take t).U j = _
      rw [addRt_U, hUh]
      have htf' : ¬ f = t := fun e => htf e.symm
      by_cases a1 : j = t
      · have a2 : ¬ j = f := fun e => htf (by rw [← a1, e])
        simp [a1, htf]
      · simp [a1, htf']
    have eW' := funext fun j => funext (eW j)
    have eU' := funext eU
    show Mm.mk _ (((M.hold f).tabled r p t).entered r p f b).W (((M.hold f).tabled r p t).entered r p f b).U = Mm.mk _ (shPg (addTb M r (p / 8) t) t (p % 8) f b).W (shPg (addTb M r (p / 8) t) t (p % 8) f b).U
    rw [eW', eU']
    rfl
  obtain ⟨hE1, hO1⟩ := h.addTab hg hk8 hx htn htu'
  have hWt : (addTb M r (p / 8) t).W r (p / 8) = entryOf t true := by rw [addTb_W, if_pos ⟨rfl, rfl⟩]
  have hnt : numb ((addTb M r (p / 8) t).W r (p / 8)) = t := by rw [hWt, numb_entryOf t true (by omega)]
  have ha1 : pres ((addTb M r (p / 8) t).ent r p) = false := by rw [hE1 g r p hg hp, if_pos ⟨rfl, rfl⟩]; rfl
  have hx1 : pres ((addTb M r (p / 8) t).W r (p / 8)) = true := by rw [hWt]; exact pres_entryOf _ _
  have habs : ∀ p', p' / 8 = p / 8 → pres (M.ent r p') = false := fun p' e => by
    have : pres (M.W r (p' / 8)) = false := by rw [e]; exact hx
    rw [ent_abs this]
    exact this
  have hf1 : IsPage (addTb M r (p / 8) t) G f := by
    obtain ⟨g0, r0, p0, hg0, hp0, hx0, hn0⟩ := hf
    have e : ¬ (r0 = r ∧ p0 / 8 = p / 8) := fun e => by
      have := habs p0 e.2
      rw [e.1, this] at hx0
      cases hx0
    exact ⟨g0, r0, p0, hg0, hp0, by rw [hE1 g0 r0 p0 hg0 hp0, if_neg e]; exact hx0, by rw [hE1 g0 r0 p0 hg0 hp0, if_neg e]; exact hn0⟩
  obtain ⟨hE2, hO2⟩ := hO1.sharePage (b := b) hg hp hx1 ha1 hf1
  rw [hnt] at hE2 hO2
  have hWr : ∀ g' r' j, G g' = some r' → (shPg (addTb M r (p / 8) t) t (p % 8) f b).W r' j = if r' = r ∧ j = p / 8 then entryOf t true else M.W r' j := fun g' r' j hg' => by
    have h1 := h.root_ne_free htu' hg'
    rw [shPg_W, if_neg (fun q => h1 q.1), addTb_W, if_neg h1]
  have hpr : ∀ g' r' p', G g' = some r' → p' < 64 → ¬ (r' = r ∧ p' = p) → (pres (M.ent r' p') = true → (shPg (addTb M r (p / 8) t) t (p % 8) f b).ent r' p' = M.ent r' p') ∧ pres ((shPg (addTb M r (p / 8) t) t (p % 8) f b).ent r' p') = pres (M.ent r' p') := fun g' r' p' hg' hp' hne => by
    rw [hE2 g' r' p' hg' hp', if_neg hne, hE1 g' r' p' hg' hp']
    by_cases e : r' = r ∧ p' / 8 = p / 8
    · rw [if_pos e]
      have := habs p' e.2
      rw [e.1, this]
      exact ⟨fun q => (by cases q), rfl⟩
    · rw [if_neg e]
      exact ⟨fun _ => rfl, rfl⟩
  rw [he]
  refine ⟨⟨rfl, hO2, ?_, ?_, ⟨?_, ?_, ?_⟩⟩, ?_⟩
  · intro g' r' k hg' hk hx'
    rw [hWr g' r' k hg'] at hx' ⊢
    by_cases e : r' = r ∧ k = p / 8
    · rw [if_pos e, numb_entryOf t true (by omega)]
      refine ⟨p % 8, by omega, ?_⟩
      rw [shPg_W, if_pos ⟨rfl, rfl⟩]
      exact pres_entryOf _ _
    · rw [if_neg e] at hx' ⊢
      obtain ⟨i, hi, hy⟩ := hfu g' r' k hg' hk hx'
      refine ⟨i, hi, ?_⟩
      have h1 := h.tab_ne_free htu' hg' hk hx'
      have h3 := h.tab_ne_root hg' hk hx' hg
      rw [shPg_W, if_neg (fun q => h1 q.1), addTb_W, if_neg (fun q => h3 q.1), if_neg h1]
      exact hy
  · rw [hE2 g r p hg hp, if_pos ⟨rfl, rfl⟩]
  · intro g' r' p' hg' hp' hne
    exact (hpr g' r' p' hg' hp' hne).2
  · intro g' r' p' hg' hp' hne hx'
    exact (hpr g' r' p' hg' hp' hne).1 hx'
  · intro g' r' p' hg' hp' hx' k
    have h1 := h.free_page htu' hg' hp' hx'
    have h3 : numb (M.ent r' p') ≠ r := fun e => (h.pageN hg' hp' hx').2.1 ⟨g, by rw [hg, e]⟩
    rw [shPg_W, if_neg (fun q => h1 q.1), addTb_W, if_neg (fun q => h3 q.1), if_neg h1]
  · have e1 := hold_free hfn hfu1
    have e2 := take_free (M := M.hold f) (i := t) htn htu
    have e3 : (shPg (addTb M r (p / 8) t) t (p % 8) f b).free = ((M.hold f).take t).free := by rw [← he]; rfl
    omega
end Go.Proofs.YtfcepnhknmbaaaaGreat
