/- What holds of a machine between calls ('Inv'), and that each call's turn keeps it. -/
import Derived.Test.YtfcepnhknmbaaaaGreatPure
import Derived.Test.YtfcepnhknmbaaaaGreatTopM
namespace Go.Proofs.YtfcepnhknmbaaaaGreat

/-! How many frames are free. -/
theorem freeTo_congr {U U' : Nat → Int} : ∀ {k : Nat}, (∀ j, j < k → U' j = U j) → freeTo U' k = freeTo U k
  | 0, _ => rfl
  | k + 1, h => by simp only [freeTo, freeTo_congr (k := k) (fun j hj => h j (by omega)), h k (by omega)]

theorem freeTo_upd {U : Nat → Int} {i : Nat} {v : Int} : ∀ {k : Nat}, i < k → freeTo (upd U i v) k + (if U i = 0 then 1 else 0) = freeTo U k + (if v = 0 then 1 else 0)
  | 0, h => by omega
  | k + 1, h => by
    simp only [freeTo]
    by_cases e : i = k
    · subst e
      have e1 : freeTo (upd U i v) i = freeTo U i := freeTo_congr (fun j hj => by simp [upd]; omega)
      have e2 : upd U i v i = v := by simp [upd]
      rw [e1, e2]
      omega
    · have e1 := freeTo_upd (U := U) (v := v) (k := k) (i := i) (by omega)
      have e2 : upd U i v k = U k := by simp [upd]; omega
      rw [e2]
      omega

theorem first_of_free {U : Nat → Int} : ∀ (f k : Nat), (∃ j, k ≤ j ∧ j < k + f ∧ U j = 0) → ∃ i, firstFree U k f = some i
  | 0, k, ⟨j, h1, h2, _⟩ => by omega
  | f + 1, k, ⟨j, h1, h2, h3⟩ => by
    simp only [firstFree]
    by_cases e : U k = 0
    · exact ⟨k, by rw [if_pos e]⟩
    · rw [if_neg e]
      exact first_of_free f (k + 1) ⟨j, by rcases Nat.lt_or_ge k j with q | q; omega; exact absurd (by rw [show k = j by omega]; exact h3) e, by omega, h3⟩

theorem free_some {U : Nat → Int} : ∀ {k : Nat}, 1 ≤ freeTo U k → ∃ j, j < k ∧ U j = 0
  | 0, h => by simp [freeTo] at h
  | k + 1, h => by
    simp only [freeTo] at h
    by_cases e : U k = 0
    · exact ⟨k, by omega, e⟩
    · rw [if_neg e] at h
      obtain ⟨j, h1, h2⟩ := free_some (k := k) (by omega)
      exact ⟨j, by omega, h2⟩

theorem Mm.first_some {M : Mm} (h : 1 ≤ M.free) : ∃ i, M.first = some i := by
  obtain ⟨j, h1, h2⟩ := free_some h
  exact first_of_free M.n 0 ⟨j, by omega, by omega, h2⟩

theorem take_free {M : Mm} {i : Nat} (hi : i < M.n) (hu : M.U i = 0) : (M.take i).free + 1 = M.free := by
  have := freeTo_upd (U := M.U) (v := 1) hi
  rw [if_pos hu, if_neg (by omega)] at this
  exact this

/-- The frames' words have turned alone. -/
theorem free_setW (M : Mm) (i k : Nat) (v : Int) : (M.setW i k v).free = M.free := rfl

theorem unuse_free {M : Mm} {f : Nat} (hf : f < M.n) (h1 : 1 ≤ M.U f) : (M.unuse f).free = M.free + (if M.U f = 1 then 1 else 0) := by
  have := freeTo_upd (U := M.U) (v := M.U f - 1) hf
  rw [if_neg (by omega)] at this
  show freeTo (upd M.U f (M.U f - 1)) M.n = freeTo M.U M.n + _
  rw [show freeTo (upd M.U f (M.U f - 1)) M.n = freeTo M.U M.n + (if M.U f - 1 = 0 then 1 else 0) by omega]
  congr 1
  split <;> split <;> omega

/-! The invariant. -/
def Full (M : Mm) (G : Gs) : Prop := ∀ g r k, G g = some r → k < 8 → pres (M.W r k) = true → ∃ i, i < 8 ∧ pres (M.W (numb (M.W r k)) i) = true

structure Inv (S : MS) (H : Hs) : Prop where
  ok : Ok S.M S.G H
  full : Full S.M S.G
  gpos : ∀ {g r}, S.G g = some r → 1 ≤ g ∧ g ≤ S.last
  coh : ∀ {g p x}, S.K (g, p) = some x → ∃ r, S.G g = some r ∧ 0 ≤ p ∧ p < 64 ∧ x = S.M.ent r p.toNat ∧ pres x = true
  gl : ∃ L : List Int, L.Nodup ∧ (∀ g, g ∈ L ↔ (S.G g).isSome = true) ∧ L.length = S.cnt
  c4 : S.cnt ≤ 4
  rt : ∀ {g r}, S.G g = some r → -1 ≤ S.Rt g ∧ S.Rt g < 64

/-- A group has a page just if it has a table. -/
theorem group_iff {M : Mm} {G : Gs} (hf : Full M G) {g : Int} {r k : Nat} (hg : G g = some r) (hk : k < 8) :
    pres (M.W r k) = true ↔ ∃ p, p / 8 = k ∧ p < 64 ∧ pres (M.ent r p) = true := by
  constructor
  · intro hx
    obtain ⟨i, hi, hy⟩ := hf g r k hg hk hx
    refine ⟨8 * k + i, by omega, by omega, ?_⟩
    have e1 : (8 * k + i) / 8 = k := by omega
    have e2 : (8 * k + i) % 8 = i := by omega
    rw [ent_pres (by rw [e1]; exact hx), e1, e2]
    exact hy
  · rintro ⟨p, rfl, hp, hx⟩
    exact pres_tbl hx

theorem Inv.good {S : MS} {H : Hs} (h : Inv S H) {g p : Int} {r : Nat} (hg64 : In64 g) (hg : S.G g = some r) (hp0 : 0 ≤ p) (hp1 : p < 64) (hk : S.kn < maxLen) : Good S g p r where
  g64 := hg64
  G := hg
  p0 := hp0
  p1 := hp1
  root := (h.ok.rootN hg).1
  used := by have := (h.ok.rootN hg).2; omega
  tab := fun hx => (h.ok.tabN hg (k := p.toNat / 8) (by omega) hx).1
  K := fun x hx => by
    obtain ⟨r', hg', _, _, e, _⟩ := h.coh hx
    rw [hg] at hg'
    injection hg' with hg'
    rw [hg']
    exact e
  kn := hk

theorem Inv.cached {S : MS} {H : Hs} (h : Inv S H) {B : Nat} {kb : Option Nat} {kn : Nat} {K : Int × Int → Option Int} {g p : Int} {r : Nat} (hg : S.G g = some r) (hp0 : 0 ≤ p) (hp1 : p < 64)
    (hG : Goes B S kb kn K (g, p) (S.M.ent r p.toNat)) : Inv (S.cached kb kn K) H := by
  refine ⟨h.ok, h.full, h.gpos, ?_, h.gl, h.c4, h.rt⟩
  intro g' p' x hx
  rcases hG.K (g', p') x hx with q | ⟨e, e2, e3⟩
  · exact h.coh q
  · injection e with e4 e5
    subst e4 e5
    exact ⟨r, hg, hp0, hp1, e2, e3⟩

theorem Inv.fresh (n mp fb gb : Nat) (hn : n ≤ 64) : Inv (MS.fresh n mp fb gb) (fun _ => []) := by
  have hG : ∀ {g r}, (MS.fresh n mp fb gb).G g = some r → False := fun q => by cases q
  refine ⟨⟨hn, fun q => (hG q).elim, fun q => (hG q).elim, fun q => (hG q).elim, fun q => (hG q).elim, fun q => (hG q).elim, fun _ => List.nodup_nil, ?_, ?_⟩, fun _ _ _ q => (hG q).elim, fun q => (hG q).elim, ?_, ⟨[], List.nodup_nil, ?_, rfl⟩, by simp [MS.fresh], fun q => (hG q).elim⟩
  · intro f g p
    constructor
    · intro q; cases q
    · rintro ⟨_, r, q, _⟩; exact (hG q).elim
  · intro f _ _ _; rfl
  · intro g p x q; cases q
  · intro g
    constructor
    · intro q; cases q
    · intro q; cases q

theorem fresh_free (n mp fb gb : Nat) : (MS.fresh n mp fb gb).M.free = n := by
  have : ∀ k, freeTo (fun _ => 0) k = k := by
    intro k
    induction k with
    | zero => rfl
    | succ k ih => simp only [freeTo, ih, if_true]
  exact this n

/-- No entry of the table is present. -/
theorem nonePres_iff (M : Mm) (t : Nat) : ∀ (f k : Nat), nonePres M t k f = true ↔ ∀ i, k ≤ i → i < k + f → pres (M.W t i) = false
  | 0, k => by simp only [nonePres, true_iff]; intro i _ _; omega
  | f + 1, k => by
    simp only [nonePres, Bool.and_eq_true, Bool.not_eq_true', nonePres_iff M t f (k + 1)]
    constructor
    · rintro ⟨h1, h2⟩ i hi hj
      by_cases e : i = k
      · rw [e]; exact h1
      · exact h2 i (by omega) (by omega)
    · intro h
      exact ⟨h k (by omega) (by omega), fun i hi hj => h i (by omega) (by omega)⟩
theorem empty_iff (M : Mm) (t : Nat) : M.empty t = true ↔ ∀ i, i < 8 → pres (M.W t i) = false := by
  rw [Mm.empty, nonePres_iff]
  constructor
  · intro h i hi; exact h i (by omega) (by omega)
  · intro h i _ hi; exact h i (by omega)

theorem Inv.created {S : MS} {H : Hs} (h : Inv S H) {i : Nat} (hi : S.M.first = some i) (hc : S.cnt < 4) :
    S.G (S.last + 1) = none ∧ Inv (S.created i) H ∧ (S.created i).M.free + 1 = S.M.free ∧
    (∀ g r p, S.G g = some r → p < 64 → (S.created i).M.ent r p = S.M.ent r p) ∧ (∀ p, (S.created i).M.ent i p = 0) ∧
    (∀ g r p, S.G g = some r → p < 64 → pres (S.M.ent r p) = true → ∀ k, (S.created i).M.W (numb (S.M.ent r p)) k = S.M.W (numb (S.M.ent r p)) k) := by
  obtain ⟨hin, hu⟩ := first_lt hi
  have hg : S.G (S.last + 1) = none := by
    cases q : S.G (S.last + 1) with
    | none => rfl
    | some r => have := h.gpos q; omega
  obtain ⟨hE, hE0, hO⟩ := h.ok.addRoot hg hin hu
  refine ⟨hg, ⟨hO, ?_, ?_, ?_, ?_, by simp only [MS.created]; omega, ?_⟩, take_free hin hu, hE, hE0, ?_⟩
  · intro g r k q hk hx
    simp only [MS.created] at q hx ⊢
    by_cases e : g = (S.last : Int) + 1
    · rw [if_pos e] at q
      injection q with q
      rw [← q, addRt_W, if_pos rfl] at hx
      cases hx
    · rw [if_neg e] at q
      have hri := h.ok.root_ne_free hu q
      rw [addRt_W, if_neg hri] at hx ⊢
      obtain ⟨j, hj, hy⟩ := h.full g r k q hk hx
      refine ⟨j, hj, ?_⟩
      rw [addRt_W, if_neg (h.ok.tab_ne_free hu q hk hx)]
      exact hy
  · intro g r q
    simp only [MS.created] at q ⊢
    by_cases e : g = (S.last : Int) + 1
    · subst e
      exact ⟨by omega, by omega⟩
    · rw [if_neg e] at q
      have := h.gpos q
      exact ⟨by omega, by omega⟩
  · intro g p x q
    obtain ⟨r, a1, a2, a3, a4, a5⟩ := h.coh q
    refine ⟨r, ?_, a2, a3, ?_, a5⟩
    · simp only [MS.created]
      rw [if_neg (fun e => by rw [e, hg] at a1; cases a1)]
      exact a1
    · rw [a4]
      exact (hE g r p.toNat a1 (by omega)).symm
  · obtain ⟨L, l1, l2, l3⟩ := h.gl
    refine ⟨((S.last : Int) + 1) :: L, List.nodup_cons.2 ⟨fun q => ?_, l1⟩, fun g => ?_, by simp [MS.created, l3]⟩
    · have := (l2 _).1 q
      rw [hg] at this
      cases this
    · simp only [MS.created, List.mem_cons]
      by_cases e : g = (S.last : Int) + 1
      · simp [e]
      · rw [if_neg e, ← l2 g]
        simp [e]
  · intro g r q
    simp only [MS.created] at q ⊢
    by_cases e : g = (S.last : Int) + 1
    · rw [if_pos e]
      omega
    · rw [if_neg e] at q ⊢
      exact h.rt q
  · intro g r p q hp hx k
    simp only [MS.created]
    rw [addRt_W, if_neg (h.ok.free_page hu q hp hx)]
end Go.Proofs.YtfcepnhknmbaaaaGreat
