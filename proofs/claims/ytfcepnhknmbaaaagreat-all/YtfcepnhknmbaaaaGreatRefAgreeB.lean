/- The program's machine and the document's agree behind Share, Root, Load, Store: codes and states. -/
import Derived.Test.YtfcepnhknmbaaaaGreatRefAgree
import Derived.Test.YtfcepnhknmbaaaaGreatRefTurnM
import Derived.Test.YtfcepnhknmbaaaaGreatAbsD
namespace Go.Proofs.YtfcepnhknmbaaaaGreat
open Go.RowKit Go.Deep

section
variable {A : Abs} {R : RS} {psi : Int → Nat}

theorem Agree.up (h : Agree A R psi) (n : Nat) : Agree (A.up n) R psi := ⟨h.n, h.last, h.cnt, h.nd, h.pos, h.has, h.pg, h.idI, h.idB, h.psI, h.wd, h.rt⟩

/-- The words are words. -/
theorem Agree.bdd {w : World} {mb : Nat} {own : Nat → Prop} (h : Agree A R psi) (hr : Rep w mb own A) : ∀ g ∈ R.L, g.bdd R.Wd := by
  obtain ⟨S, H, hM, _, hS, _⟩ := hr
  intro G hG q b k hq hb hk
  have e := h.pg G hG q hq
  rw [hb] at e
  have e1 := hS.wd G.N q _ _ k hq hk e
  rw [← h.wd b ⟨G, hG, q, hq, hb⟩ k hk, e1]
  exact hM.mem.wb _ _
theorem Agree.rts (h : Agree A R psi) : ∀ g ∈ R.L, -1 ≤ g.root ∧ g.root < 64 := fun g hg => (h.rt g hg).2

theorem Agree.rootCode (h : Agree A R psi) (g p : Int) : R.rootCode g p = A.rootCode g p := by
  simp only [RS.rootCode, Abs.rootCode, Abs.check]
  cases hq : findFrom R.L g with
  | none => simp [h.lost hq]
  | some G =>
    obtain ⟨_, _, hh⟩ := h.found hq
    rw [hh]
    by_cases hp : p < -1 ∨ 64 ≤ p
    · have : isRt p = false := by simp only [isRt]; rw [decide_eq_false_iff_not]; omega
      simp [hp, this]
    · have : isRt p = true := by simp only [isRt]; rw [decide_eq_true_iff]; omega
      simp [hp, this]

theorem rootAt_at {G : RG} (r : Int) : rootAt G.gb r G = { G with root := r } := by simp [rootAt]
theorem rootAt_ne {gb : Nat} {G : RG} (r : Int) (h : G.gb ≠ gb) : rootAt gb r G = G := by simp [rootAt, h]
theorem rootAt_Wr (gb : Nat) (r : Int) (g : RG) : (rootAt gb r g).Wr = g.Wr := by simp only [rootAt]; split <;> rfl

theorem Agree.rooted (h : Agree A R psi) {w : World} {rb : Nat} (hR : Refm w rb R) {G : RG} (hG : G ∈ R.L) {r : Int} (hr : -1 ≤ r ∧ r < 64) : Agree (A.rooted G.N r) (R.rooted G.gb r) psi := by
  refine ⟨h.n, h.last, by simp [Abs.rooted, RS.rooted, h.cnt], ?_, fun G' hG' => ?_, fun g' => ?_, fun G' hG' p' hp' => ?_, fun b b' hb hb' => h.idI b b' (rooted_isPg.1 hb) (rooted_isPg.1 hb'), fun b hb => h.idB b (rooted_isPg.1 hb), fun b b' hb hb' => h.psI b b' (rooted_isPg.1 hb) (rooted_isPg.1 hb'), fun b hb => h.wd b (rooted_isPg.1 hb), fun G' hG' => ?_⟩
  · show ((R.L.map (rootAt G.gb r)).map fun g => g.N).Nodup
    rw [List.map_map]
    simpa [Function.comp_def, rootAt_N] using h.nd
  · obtain ⟨G0, hG0, rfl⟩ := List.mem_map.1 hG'
    rw [rootAt_N]
    exact h.pos G0 hG0
  · show A.has g' = true ↔ _
    rw [h.has]
    constructor
    · rintro ⟨G0, hG0, e⟩
      exact ⟨_, List.mem_map.2 ⟨G0, hG0, rfl⟩, by rw [rootAt_N]; exact e⟩
    · rintro ⟨G', hG', e⟩
      obtain ⟨G0, hG0, rfl⟩ := List.mem_map.1 hG'
      exact ⟨G0, hG0, by rw [rootAt_N] at e; exact e⟩
  · obtain ⟨G0, hG0, rfl⟩ := List.mem_map.1 hG'
    rw [rootAt_N, rootAt_P, rootAt_Wr]
    exact h.pg G0 hG0 p' hp'
  · obtain ⟨G0, hG0, rfl⟩ := List.mem_map.1 hG'
    rw [rootAt_N]
    show (if G0.N = G.N then r else A.rt G0.N) = _ ∧ _
    by_cases e : G0.gb = G.gb
    · have e2 : G0 = G := uniq_of_nodup hR.nd G0 hG0 G hG e
      subst e2
      rw [rootAt_at, if_pos rfl]
      exact ⟨rfl, hr⟩
    · rw [rootAt_ne r e, if_neg (fun q => e (by rw [uniq_of_nodup h.nd G0 hG0 G hG q]))]
      exact h.rt G0 hG0

/-- A page that is a page already, at one more place. -/
theorem Agree.shared (h : Agree A R psi) {w : World} {rb : Nat} (hR : Refm w rb R) {G : RG} (hG : G ∈ R.L) {p pb : Nat} {b : Bool} (hpb : R.isPg pb) :
    Agree (A.shared G.N p (psi (R.Id pb)) b) (R.set G.gb p (some pb) b) psi := by
  have isP : ∀ x, (R.set G.gb p (some pb) b).isPg x → R.isPg x := fun x hx => by
    rcases set_isPg hx with q | q
    · exact q
    · injection q with q; rw [← q]; exact hpb
  refine ⟨h.n, h.last, by simp [Abs.shared, RS.set, h.cnt], ?_, fun G' hG' => ?_, fun g' => ?_, fun G' hG' p' hp' => ?_, fun b b' hb hb' => h.idI b b' (isP b hb) (isP b' hb'), fun b hb => h.idB b (isP b hb), fun b b' hb hb' => h.psI b b' (isP b hb) (isP b' hb'), fun b hb => h.wd b (isP b hb), fun G' hG' => by
    obtain ⟨G0, hG0, rfl⟩ := List.mem_map.1 hG'
    rw [setAt_N, setAt_root]
    exact h.rt G0 hG0⟩
  · show ((R.L.map (setAt G.gb p (some pb) b)).map fun g => g.N).Nodup
    rw [List.map_map]
    simpa [Function.comp_def, setAt_N] using h.nd
  · obtain ⟨G0, hG0, rfl⟩ := List.mem_map.1 hG'
    rw [setAt_N]
    exact h.pos G0 hG0
  · show A.has g' = true ↔ _
    rw [h.has]
    constructor
    · rintro ⟨G0, hG0, e⟩
      exact ⟨_, List.mem_map.2 ⟨G0, hG0, rfl⟩, by rw [setAt_N]; exact e⟩
    · rintro ⟨G', hG', e⟩
      obtain ⟨G0, hG0, rfl⟩ := List.mem_map.1 hG'
      exact ⟨G0, hG0, by rw [setAt_N] at e; exact e⟩
  · obtain ⟨G0, hG0, rfl⟩ := List.mem_map.1 hG'
    rw [setAt_N]
    have h0 := h.pg G0 hG0 p' hp'
    simp only [Abs.shared]
    by_cases e : G0.gb = G.gb
    · have e2 : G0 = G := uniq_of_nodup hR.nd G0 hG0 G hG e
      subst e2
      rw [setAt_at]
      simp only [RG.set]
      by_cases e3 : p' = p
      · rw [if_pos ⟨trivial, e3⟩]; simp only [if_pos e3]; rfl
      · rw [if_neg (fun q => e3 q.2)]; simp only [if_neg e3]; exact h0
    · rw [setAt_ne _ _ _ e, if_neg (fun q => e (by rw [uniq_of_nodup h.nd G0 hG0 G hG q.1]))]
      exact h0

/-! What is turned. -/
theorem Agree.lev (h : Agree A R psi) {G : RG} (hG : G ∈ R.L) {p : Nat} (hp : p < 64) (st : Bool) : ∀ n q, q < 64 → A.lev G.N p st n q = if (G.lev R.Wd p st n q).2.1 = 0 then A.lev G.N p st 0 (G.lev R.Wd p st n q).1 else (0, (G.lev R.Wd p st n q).2)
  | 0, q, _ => by rw [RG.lev, if_pos rfl]
  | n + 1, q, hq => by
    have e := h.pg G hG q hq
    cases hx : G.P q with
    | none =>
      rw [hx] at e
      have eA : A.lev G.N p st (n + 1) q = (0, 3, (2 : Int) - n) := by rw [Abs.lev, e]; rfl
      have eR : G.lev R.Wd p st (n + 1) q = (0, 3, (2 : Int) - n) := by rw [RG.lev, hx]
      rw [eA, eR]
      simp
    | some b =>
      rw [hx] at e
      have hw := h.wd b ⟨G, hG, q, hq, hx⟩ (idx (2 - n) p) (idx_lt hp _)
      have e : A.pg G.N q = some (psi (R.Id b), G.Wr q) := e
      have eA : A.lev G.N p st (n + 1) q = if pres (R.Wd b (idx (2 - n) p)) then (if st && !wrib (R.Wd b (idx (2 - n) p)) then (0, 2, (2 : Int) - n) else A.lev G.N p st n (numb (R.Wd b (idx (2 - n) p)))) else (0, 1, (2 : Int) - n) := by
        rw [Abs.lev, e]
        simp only [hw]
      have eR : G.lev R.Wd p st (n + 1) q = if pres (R.Wd b (idx (2 - n) p)) then (if st && !wrib (R.Wd b (idx (2 - n) p)) then (0, 2, (2 : Int) - n) else G.lev R.Wd p st n (numb (R.Wd b (idx (2 - n) p)))) else (0, 1, (2 : Int) - n) := by rw [RG.lev, hx]
      have ih := h.lev hG hp st n (numb (R.Wd b (idx (2 - n) p))) (by have := numb_lt (R.Wd b (idx (2 - n) p)); omega)
      rw [eA, eR]
      cases hy : pres (R.Wd b (idx (2 - n) p)) with
      | false => simp
      | true =>
        cases hz : (st && !wrib (R.Wd b (idx (2 - n) p))) with
        | true => simp
        | false =>
          simp only [if_true, Bool.false_eq_true, if_false]
          exact ih

theorem Agree.turned (h : Agree A R psi) {G : RG} (hG : G ∈ R.L) {p : Nat} (hp : p < 64) (st : Bool) :
    A.turned G.N p st = (match (G.meant R.Wd p st).1 with | none => 0 | some b => psi (R.Id b), (G.meant R.Wd p st).2) := by
  obtain ⟨e1, e2, e3⟩ := h.rt G hG
  have key : A.turned G.N p st = if (G.turned R.Wd p st).2.1 = 0 then A.lev G.N p st 0 (G.turned R.Wd p st).1 else (0, (G.turned R.Wd p st).2) := by
    rw [Abs.turned, RG.turned, e1]
    by_cases hr : G.root < 0
    · rw [if_pos hr, if_pos (by omega), if_pos rfl]
    · rw [if_neg hr, if_neg (by omega)]
      exact h.lev hG hp st 2 _ (by omega)
  rw [key, RG.meant]
  rcases G.turned_cases R.Wd hp st e3 with ⟨q, hq, e⟩ | ⟨k, l, e, hk1, _⟩
  · rw [e, if_pos rfl, if_neg (by simp)]
    have e4 := h.pg G hG q hq
    rw [Abs.lev, e4]
    cases hx : G.P q with
    | none => rfl
    | some b =>
      simp only [Option.map_some]
      split <;> rfl
  · have hk0 : k ≠ 0 := by omega
    rw [e, if_neg hk0, if_pos hk0]

theorem meant_some {G : RG} {Wd : Nat → Nat → Int} {p b : Nat} {st : Bool} (e : (G.meant Wd p st).1 = some b) : (G.meant Wd p st).2.1 = 0 := by
  rw [RG.meant] at e ⊢
  by_cases hz : (G.turned Wd p st).2.1 ≠ 0
  · rw [if_pos hz] at e
    cases e
  · rw [if_neg hz] at e ⊢
    cases hx : G.P (G.turned Wd p st).1 with
    | none => rw [hx] at e; cases e
    | some b' =>
      rw [hx] at e
      by_cases hw : (st && !G.Wr (G.turned Wd p st).1) = true
      · simp only [hw, if_true] at e
        cases e
      · simp only [hw, Bool.false_eq_true, if_false]
theorem meant_none {G : RG} {Wd : Nat → Nat → Int} {p : Nat} {st : Bool} (e : (G.meant Wd p st).1 = none) : (G.meant Wd p st).2.1 ≠ 0 := by
  rw [RG.meant] at e ⊢
  by_cases hz : (G.turned Wd p st).2.1 ≠ 0
  · rw [if_pos hz]
    exact hz
  · rw [if_neg hz] at e ⊢
    cases hx : G.P (G.turned Wd p st).1 with
    | none => simp
    | some b' =>
      rw [hx] at e
      by_cases hw : (st && !G.Wr (G.turned Wd p st).1) = true
      · simp only [hw, if_true]
        simp
      · simp only [hw, Bool.false_eq_true, if_false] at e
        cases e

theorem Agree.loadAt (h : Agree A R psi) (g a : Int) : R.loadAt g a = A.loadAt g a := by
  simp only [RS.loadAt, Abs.loadAt]
  cases hq : findFrom R.L g with
  | none => simp [Abs.check, h.lost hq]
  | some G =>
    obtain ⟨hG, hN, hh⟩ := h.found hq
    by_cases hp : a < 0 ∨ 512 ≤ a
    · simp [Abs.check, hh, isAd_out hp, hp]
    · have e1 : A.check g (isAd a) = 0 := by simp [Abs.check, hh, isAd_in hp]
      have ht := h.turned hG (p := a.toNat / 8) (by omega) false
      rw [hN] at ht
      simp only [e1, hp, if_false, ne_eq, not_true_eq_false, ht]
      cases hm : (G.meant R.Wd (a.toNat / 8) false).1 with
      | none => simp [meant_none hm]
      | some b =>
        obtain ⟨q, hq', hx⟩ := RG.meant_pg (by omega) (h.rts G hG).2 hm
        simp only [meant_some hm, if_true]
        rw [h.wd b ⟨G, hG, q, hq', hx⟩ _ (by omega)]

theorem Agree.storeAt (h : Agree A R psi) (g a v : Int) : R.storeAt g a v = A.storeAt g a v ∧ (A.stores g a v = true → ∃ b, R.storeTo g a v = some b ∧ R.isPg b ∧ (A.turned g (a.toNat / 8) true).1 = psi (R.Id b)) ∧ (A.stores g a v = false → R.storeTo g a v = none) := by
  simp only [RS.storeAt, Abs.storeAt, Abs.stores, RS.storeTo, Abs.checkV]
  cases hq : findFrom R.L g with
  | none => simp [Abs.check, h.lost hq]
  | some G =>
    obtain ⟨hG, hN, hh⟩ := h.found hq
    by_cases hp : a < 0 ∨ 512 ≤ a
    · simp [Abs.check, hh, isAd_out hp, hp]
    · have e1 : A.check g (isAd a) = 0 := by simp [Abs.check, hh, isAd_in hp]
      by_cases hv : v < 0 ∨ 65535 < v
      · simp [e1, hp, hv]
      · have ht := h.turned hG (p := a.toNat / 8) (by omega) true
        rw [hN] at ht
        simp only [e1, hp, hv, if_false, ne_eq, not_true_eq_false, ht, true_and, decide_eq_true_eq, decide_eq_false_iff_not]
        cases hm : (G.meant R.Wd (a.toNat / 8) true).1 with
        | none => simp [meant_none hm]
        | some b =>
          obtain ⟨q, hq', hx⟩ := RG.meant_pg (by omega) (h.rts G hG).2 hm
          simp [meant_some hm]
          exact ⟨G, hG, q, hq', hx⟩

theorem Agree.stored (h : Agree A R psi) {b : Nat} (hb : R.isPg b) (k : Nat) (v : Int) : Agree (A.stored (psi (R.Id b)) k v) (R.wrote b k v) psi := by
  refine ⟨h.n, h.last, h.cnt, h.nd, h.pos, h.has, h.pg, h.idI, h.idB, h.psI, fun x hx k' hk' => ?_, h.rt⟩
  have hx : R.isPg x := hx
  show (if _ then v else _) = (if _ then v else _)
  by_cases e : x = b ∧ k' = k
  · rw [if_pos e, if_pos ⟨by rw [e.1]; rfl, e.2⟩]
  · rw [if_neg e, if_neg (fun q => e ⟨h.psI x b hx hb q.1, q.2⟩)]
    exact h.wd x hx k' hk'

theorem Agree.shareCode (h : Agree A R psi) (hf : R.free = A.free) (f p t q : Int) (b : Bool) : R.shareCode f p t q b = A.shareCode f p t q b := by
  simp only [RS.shareCode, Abs.shareCode]
  cases ht : findFrom R.L t with
  | none =>
    rw [if_pos (h.lost ht)]
    cases findFrom R.L f <;> rfl
  | some T =>
    obtain ⟨hT, hTN, hTh⟩ := h.found ht
    rw [if_neg (by rw [hTh]; simp)]
    cases hq : findFrom R.L f with
    | none => simp [Abs.check, h.lost hq]
    | some G =>
      obtain ⟨hG, hN, hh⟩ := h.found hq
      show (if (pgOk p && pgOk q) = true then (match G.P p.toNat with | none => (7 : Int) | some _ => if b && !G.Wr p.toNat then 8 else if (T.P q.toNat).isSome then 6 else if R.free < T.takes (q.toNat / 8) then 3 else 0) else 5) = _
      rcases Bool.eq_false_or_eq_true (isPg p && isPg q) with hpp | hpp
      rotate_left
      · have hpk : (pgOk p && pgOk q) = false := hpp
        have hpn : ¬ (pgOk p && pgOk q) = true := by rw [hpk]; simp
        have e1 : A.check f (isPg p && isPg q) = 5 := by simp only [Abs.check, hh, hpp, if_true, Bool.false_eq_true, if_false]
        rw [if_neg hpn, if_pos (by rw [e1]; omega), e1]
      · have hpk : (pgOk p && pgOk q) = true := hpp
        have e1 : A.check f (isPg p && isPg q) = 0 := by simp only [Abs.check, hh, hpp, if_true]
        have hn0 : ¬ (A.check f (isPg p && isPg q) ≠ 0) := by rw [e1]; simp
        rw [if_pos hpk, if_neg hn0]
        simp only [Bool.and_eq_true] at hpp
        have hp : 0 ≤ p ∧ p < 64 := by simpa [isPg] using hpp.1
        have hq' : 0 ≤ q ∧ q < 64 := by simpa [isPg] using hpp.2
        have hpg := h.pg G hG p.toNat (by omega)
        rw [hN] at hpg
        have hpq := h.pg T hT q.toNat (by omega)
        rw [hTN] at hpq
        cases hx : G.P p.toNat with
        | none => rw [hx] at hpg; simp [hpg]
        | some x =>
          rw [hx] at hpg
          have hpg : A.pg f p.toNat = some (psi (R.Id x), G.Wr p.toNat) := hpg
          have hg := h.grp hT (k := q.toNat / 8) (by omega)
          rw [hTN] at hg
          have e2 : (R.free < T.takes (q.toNat / 8)) ↔ A.free < A.need1 t q.toNat := by
            rw [hf, Abs.need1, RG.takes, hg]
            split <;> omega
          simp only [hpg, hpq, Option.isSome_map, e2]
end
end Go.Proofs.YtfcepnhknmbaaaaGreat
