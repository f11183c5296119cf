/- The contracts of the document's Write, Unmap, Map. -/
import Derived.Test.YtelilndinnemcaaRefTop
namespace Go.Proofs.Ytelilndinnemcaa
open Go.RowKit Go.Deep

/-! What turns. -/
def RS.wrote (R : RS) (b k : Nat) (v : Int) : RS := { R with Wd := fun b' k' => if b' = b ∧ k' = k then v else R.Wd b' k' }

theorem Refm.wrote {w : World} {rb : Nat} {R : RS} (h : Refm w rb R) {b k : Nat} {v : Int} (hb : R.isPg b) : Refm (w.setCell ⟨b, 1 + k, none⟩ (.int .i64 v)) rb (R.wrote b k v) := by
  have n3 : b ≠ rb := fun e => h.n3 (by rw [← e]; exact hb)
  have n4 : R.gv.ownBlock ≠ some b := fun e => (h.n4 b e).2 hb
  obtain ⟨t, r⟩ := h.row
  refine ⟨⟨t, r.setOther (fun e => n3 e.symm) _⟩, ⟨h.sl.1, ?_⟩, fun g hg => ?_, fun b' hb' => ?_, h.n1, h.n2, h.n3, h.n4, h.n5, h.nd, h.many⟩
  · rcases h.sl.2 with q | ⟨g, cap, cur, hv, q1, q2, q3⟩
    · exact Or.inl q
    · refine Or.inr ⟨g, cap, cur, hv, q1, ?_, q3⟩
      rw [Below.heap_setCell _ _ _ _ (fun e => n4 (by rw [hv]; simp [Value.ownBlock]; exact e))]
      exact q2
  · obtain ⟨t, r⟩ := h.gs g hg
    exact ⟨t, r.setOther (fun e => h.n5 g.gb ⟨g, hg, rfl⟩ (by rw [e]; exact hb)) _⟩
  · obtain ⟨t, r⟩ := h.ps b' hb'
    by_cases e : b' = b
    · subst e
      refine ⟨t, (r.set (1 + k) _).congr (fun j _ => ?_)⟩
      simp only [RS.pgCell, RS.wrote]
      by_cases e1 : j = 1 + k
      · rw [if_pos e1, if_neg (by omega), if_pos ⟨trivial, by omega⟩]
      · rw [if_neg e1]
        by_cases e2 : j = 0
        · rw [if_pos e2, if_pos e2]
        · rw [if_neg e2, if_neg e2, if_neg (by omega)]
    · refine ⟨t, (r.setOther e _).congr (fun j _ => ?_)⟩
      simp only [RS.pgCell, RS.wrote]
      by_cases e2 : j = 0
      · rw [if_pos e2, if_pos e2]
      · rw [if_neg e2, if_neg e2, if_neg (fun q => e q.1)]

def RS.writeCode (R : RS) (n a v : Int) : Int :=
  match findFrom R.L n with
  | none => 4
  | some g => if a < 0 ∨ 512 ≤ a then 5 else if v < 0 ∨ 65535 < v then 9 else match g.P (a.toNat / 8) with
    | none => 7
    | some _ => if g.Wr (a.toNat / 8) then 0 else 8

set_option maxHeartbeats 2000000 in
theorem rwrite_any (w : World) (rb : Nat) (R : RS) (h : Refm w rb R) (n a v : Int) :
    Calls Try.prog 77 #[pt rb, .int .i64 n, .int .i64 a, .int .i64 v] w fun e w' => ∃ R', e = .returned (.int .i64 (R.writeCode n a v)) ∧ Refm w' rb R' ∧ Only (R.own rb) w w' ∧
      (R.writeCode n a v = 0 → ∃ g b, findFrom R.L n = some g ∧ g.P (a.toNat / 8) = some b ∧ R' = R.wrote b (a.toNat % 8) v) ∧ (R.writeCode n a v ≠ 0 → R' = R) := by
  cases hf : findFrom R.L n with
  | none =>
    have HR : Hid (R.writeCode n a v = 4) := by simp only [Hid, RS.writeCode, hf]
    have HF := hid hf
    clear hf
    go_enter Try.func77, Try.ntmps77
    go_wp2_with fail
    refine (rguest_any _ rb R h n).mono ?_
    rintro e w1 ⟨rfl, rfl⟩
    rw [HF.out]
    simp only [Option.map_none, ptO_none]
    go_wp2
    go_ret
    exact ⟨R, by rw [HR.out]; rfl, h, Only.refl _ _, fun q => by rw [HR.out] at q; omega, fun _ => rfl⟩
  | some g =>
    obtain ⟨hg, _⟩ := findFrom_mem hf
    by_cases ha : a < 0 ∨ 512 ≤ a
    · have HR : Hid (R.writeCode n a v = 5) := by simp only [Hid, RS.writeCode, hf, ha, if_true]
      have HF := hid hf
      clear hf
      rcases ha with ha | ha
      · go_enter Try.func77, Try.ntmps77
        go_wp2_with fail
        refine (rguest_any _ rb R h n).mono ?_
        rintro e w1 ⟨rfl, rfl⟩
        rw [HF.out]
        simp only [Option.map_some, ptO_some]
        go_wp2
        go_ret
        exact ⟨R, by rw [HR.out]; rfl, h, Only.refl _ _, fun q => by rw [HR.out] at q; omega, fun _ => rfl⟩
      · have ha2 : ¬ a < 0 := by omega
        go_enter Try.func77, Try.ntmps77
        go_wp2_with fail
        refine (rguest_any _ rb R h n).mono ?_
        rintro e w1 ⟨rfl, rfl⟩
        rw [HF.out]
        simp only [Option.map_some, ptO_some]
        go_wp2
        go_ret
        exact ⟨R, by rw [HR.out]; rfl, h, Only.refl _ _, fun q => by rw [HR.out] at q; omega, fun _ => rfl⟩
    · have h0 : 0 ≤ a := by omega
      have h1 : a < 512 := by omega
      by_cases hv : v < 0 ∨ 65535 < v
      · have HR : Hid (R.writeCode n a v = 9) := by simp only [Hid, RS.writeCode, hf, ha, if_false, hv, if_true]
        have HF := hid hf
        clear hf ha
        rcases hv with hv | hv
        · go_enter Try.func77, Try.ntmps77
          go_wp2_with fail
          refine (rguest_any _ rb R h n).mono ?_
          rintro e w1 ⟨rfl, rfl⟩
          rw [HF.out]
          simp only [Option.map_some, ptO_some]
          go_wp2
          go_ret
          exact ⟨R, by rw [HR.out]; rfl, h, Only.refl _ _, fun q => by rw [HR.out] at q; omega, fun _ => rfl⟩
        · have hv2 : ¬ v < 0 := by omega
          go_enter Try.func77, Try.ntmps77
          go_wp2_with fail
          refine (rguest_any _ rb R h n).mono ?_
          rintro e w1 ⟨rfl, rfl⟩
          rw [HF.out]
          simp only [Option.map_some, ptO_some]
          go_wp2
          go_ret
          exact ⟨R, by rw [HR.out]; rfl, h, Only.refl _ _, fun q => by rw [HR.out] at q; omega, fun _ => rfl⟩
      · have hv0 : ¬ v < 0 := by omega
        have hv1 : ¬ 65535 < v := by omega
        obtain ⟨hcp, hcw⟩ := h.gpage hg (p := a.toNat / 8) (by omega)
        rw [show 2 + a.toNat / 8 * 2 = 2 + (a / 8).toNat * 2 by omega] at hcp hcw
        cases hx : g.P (a.toNat / 8) with
        | none =>
          rw [hx, ptO_none] at hcp
          have HR : Hid (R.writeCode n a v = 7) := by simp only [Hid, RS.writeCode, hf, ha, if_false, hv, hx]
          have HF := hid hf
          clear hf ha hx hv
          go_enter Try.func77, Try.ntmps77
          go_wp2_with fail
          refine (rguest_any _ rb R h n).mono ?_
          rintro e w1 ⟨rfl, rfl⟩
          rw [HF.out]
          simp only [Option.map_some, ptO_some]
          go_wp2
          go_ret
          exact ⟨R, by rw [HR.out]; rfl, h.nob ((Only.refl _ _).alloc _), (Only.refl _ _).alloc _, fun q => by rw [HR.out] at q; omega, fun _ => rfl⟩
        | some b =>
          rw [hx, ptO_some] at hcp
          have hpb : R.isPg b := ⟨g, hg, a.toNat / 8, by omega, hx⟩
          cases hw : g.Wr (a.toNat / 8) with
          | false =>
            rw [hw] at hcw
            have HR : Hid (R.writeCode n a v = 8) := by simp only [Hid, RS.writeCode, hf, ha, if_false, hv, hx, hw]; rfl
            have HF := hid hf
            clear hf ha hx hv hw
            go_enter Try.func77, Try.ntmps77
            go_wp2_with fail
            refine (rguest_any _ rb R h n).mono ?_
            rintro e w1 ⟨rfl, rfl⟩
            rw [HF.out]
            simp only [Option.map_some, ptO_some]
            go_wp2
            go_ret
            exact ⟨R, by rw [HR.out]; rfl, h.nob ((Only.refl _ _).alloc _), (Only.refl _ _).alloc _, fun q => by rw [HR.out] at q; omega, fun _ => rfl⟩
          | true =>
            rw [hw] at hcw
            obtain ⟨t, r⟩ := h.ps b hpb
            have hcd : w.cell? ⟨b, 1 + (a % 8).toNat, none⟩ = some (.int .i64 (R.Wd b (a.toNat % 8))) := by
              rw [r.cell (by omega)]
              simp only [RS.pgCell]
              rw [if_neg (by omega), show 1 + (a % 8).toNat - 1 = a.toNat % 8 by omega]
            have hfz := r.frozen (1 + (a % 8).toNat)
            have hblt := r.lt
            have hcd' : ∀ q, (w.alloc q).cell? ⟨b, 1 + (a % 8).toNat, none⟩ = some (.int .i64 (R.Wd b (a.toNat % 8))) := fun q => by rw [World.cell?_alloc_lt _ _ _ hblt]; exact hcd
            have hfz' : ∀ q, (w.alloc q).frozen? ⟨b, 1 + (a % 8).toNat, none⟩ = false := fun q => by rw [World.frozen?_alloc_old _ _ _ (by simp; omega)]; exact hfz
            have HR : Hid (R.writeCode n a v = 0) := by simp only [Hid, RS.writeCode, hf, ha, if_false, hv, hx, hw]; rfl
            have HF := hid hf
            have HX := hid hx
            clear hf ha hx hv hw r
            go_enter Try.func77, Try.ntmps77
            go_wp2_with fail
            refine (rguest_any _ rb R h n).mono ?_
            rintro e w1 ⟨rfl, rfl⟩
            rw [HF.out]
            simp only [Option.map_some, ptO_some]
            go_wp2
            go_ret
            have hw2 := (h.wrote (k := a.toNat % 8) (v := v) hpb).nob ((Only.refl Nob _).alloc (.cells #[pt b, .bool true] 132))
            rw [show 1 + a.toNat % 8 = 1 + (a % 8).toNat by omega] at hw2
            refine ⟨_, by rw [HR.out]; rfl, hw2, ?_, fun _ => ⟨g, b, rfl, HX.out, rfl⟩, fun q => absurd HR.out q⟩
            exact ((Only.refl _ _).setCell (p := ⟨b, 1 + (a % 8).toNat, none⟩) (fun _ => Or.inr (Or.inr (Or.inr hpb))) _).alloc _

/-- A guest's page is another one. -/
def RG.set (g : RG) (p : Nat) (o : Option Nat) (b : Bool) : RG := { g with P := fun q => if q = p then o else g.P q, Wr := fun q => if q = p then b else g.Wr q }
def setAt (gb p : Nat) (o : Option Nat) (b : Bool) (g : RG) : RG := if g.gb = gb then g.set p o b else g
def RS.set (R : RS) (gb p : Nat) (o : Option Nat) (b : Bool) : RS := { R with L := R.L.map (setAt gb p o b) }

theorem setAt_gb (gb p : Nat) (o : Option Nat) (b : Bool) (g : RG) : (setAt gb p o b g).gb = g.gb := by
  simp only [setAt]
  split <;> rfl
theorem set_gbs (R : RS) (gb p : Nat) (o : Option Nat) (b : Bool) : (R.set gb p o b).L.map (fun g => g.gb) = R.L.map (fun g => g.gb) := by
  simp only [RS.set, List.map_map]
  congr 1
  funext g
  exact setAt_gb gb p o b g
theorem set_isGs {R : RS} {gb p : Nat} {o : Option Nat} {b : Bool} {x : Nat} : (R.set gb p o b).isGs x ↔ R.isGs x := by
  constructor
  · rintro ⟨g, hg, e⟩
    obtain ⟨g', hg', rfl⟩ := List.mem_map.1 hg
    rw [setAt_gb] at e
    exact ⟨g', hg', e⟩
  · rintro ⟨g, hg, e⟩
    exact ⟨_, List.mem_map.2 ⟨g, hg, rfl⟩, by rw [setAt_gb]; exact e⟩
theorem set_isPg {R : RS} {gb p : Nat} {o : Option Nat} {b : Bool} {x : Nat} (h : (R.set gb p o b).isPg x) : R.isPg x ∨ o = some x := by
  obtain ⟨g, hg, q, hq, e⟩ := h
  obtain ⟨g', hg', rfl⟩ := List.mem_map.1 hg
  simp only [setAt] at e
  split at e
  · simp only [RG.set] at e
    split at e
    · exact Or.inr e
    · exact Or.inl ⟨g', hg', q, hq, e⟩
  · exact Or.inl ⟨g', hg', q, hq, e⟩

theorem setAt_cell (g : RG) (p : Nat) (o : Option Nat) (b : Bool) (j : Nat) (_hj : j < 130) : (g.set p o b).cell j = if j = 2 + p * 2 + 1 then .bool b else if j = 2 + p * 2 then ptO o else g.cell j := by
  simp only [RG.cell, RG.set]
  by_cases e0 : j = 0
  · rw [if_pos e0, if_neg (by omega), if_neg (by omega), if_pos e0]
  · rw [if_neg e0]
    by_cases e1 : j = 1
    · rw [if_pos e1, if_neg (by omega), if_neg (by omega), if_neg e0, if_pos e1]
    · rw [if_neg e1]
      by_cases e2 : j % 2 = 0
      · rw [if_pos e2]
        by_cases e3 : j = 2 + p * 2
        · have e4 : (j - 2) / 2 = p := by omega
          rw [if_pos e4, if_neg (show ¬ j = 2 + p * 2 + 1 by omega), if_pos e3]
        · have e4 : ¬ (j - 2) / 2 = p := by omega
          rw [if_neg e4, if_neg (show ¬ j = 2 + p * 2 + 1 by omega), if_neg e3, if_neg e0, if_neg e1, if_pos e2]
      · rw [if_neg e2]
        by_cases e3 : j = 2 + p * 2 + 1
        · have e4 : (j - 3) / 2 = p := by omega
          rw [if_pos e4, if_pos e3]
        · have e4 : ¬ (j - 3) / 2 = p := by omega
          rw [if_neg e4, if_neg e3, if_neg (show ¬ j = 2 + p * 2 by omega), if_neg e0, if_neg e1, if_neg e2]

/-- The two cells of a guest's page are written; where a page comes, its block lies already. -/
theorem Refm.set {w : World} {rb : Nat} {R : RS} (h : Refm w rb R) {g : RG} (hg : g ∈ R.L) {p : Nat} {o : Option Nat} {b : Bool}
    (ho : ∀ x, o = some x → (∃ t, w.rowIs x t 9 (R.pgCell x)) ∧ x ≠ rb ∧ R.gv.ownBlock ≠ some x ∧ ¬ R.isGs x) :
    Refm ((w.setCell ⟨g.gb, 2 + p * 2, none⟩ (ptO o)).setCell ⟨g.gb, 2 + p * 2 + 1, none⟩ (.bool b)) rb (R.set g.gb p o b) := by
  have hgs : R.isGs g.gb := ⟨g, hg, rfl⟩
  have e1 : rb ≠ g.gb := fun e => h.n2 (by rw [e]; exact hgs)
  have e2 : R.gv.ownBlock ≠ some g.gb := fun e => (h.n4 _ e).1 hgs
  obtain ⟨t, r⟩ := h.row
  refine ⟨⟨t, (r.setOther e1 _).setOther e1 _⟩, ⟨by simp only [RS.set, List.map_map, List.length_map, Nat.mul_one], ?_⟩, fun x hx => ?_, fun x hx => ?_, h.n1, fun q => h.n2 (set_isGs.1 q), fun q => ?_, fun x hx => ⟨fun q => (h.n4 x hx).1 (set_isGs.1 q), fun q => ?_⟩, fun x hx q => ?_, by rw [set_gbs]; exact h.nd, by simp only [RS.set, List.length_map]; exact h.many⟩
  · have hs := h.sl.2
    have e3 : (R.set g.gb p o b).L.map (fun g => pt g.gb) = R.L.map (fun g => pt g.gb) := by
      have := congrArg (List.map pt) (set_gbs R g.gb p o b)
      simp only [List.map_map] at this ⊢
      exact this
    have e4 : (R.set g.gb p o b).L.length = R.L.length := by simp only [RS.set, List.length_map]
    rw [e3, e4]
    rcases hs with q | ⟨sb, cap, cur, hv, q1, q2, q3⟩
    · exact Or.inl q
    · refine Or.inr ⟨sb, cap, cur, hv, q1, ?_, q3⟩
      have e5 : sb ≠ g.gb := fun e => e2 (by rw [hv, ← e]; rfl)
      rw [Below.heap_setCell _ _ _ _ e5, Below.heap_setCell _ _ _ _ e5]
      exact q2
  · obtain ⟨g', hg', rfl⟩ := List.mem_map.1 hx
    obtain ⟨t, r⟩ := h.gs g' hg'
    rw [setAt_gb]
    by_cases e : g'.gb = g.gb
    · simp only [setAt, e, if_true]
      rw [e] at r
      refine ⟨t, ((r.set _ _).set _ _).congr (fun j hj => ?_)⟩
      rw [setAt_cell g' p o b j hj]
    · simp only [setAt, e, if_false]
      exact ⟨t, (r.setOther e _).setOther e _⟩
  · have hr : ∃ t, w.rowIs x t 9 (R.pgCell x) := (set_isPg hx).elim (h.ps x) (fun q => (ho x q).1)
    have hne : x ≠ g.gb := fun e => by
      rcases set_isPg hx with q | q
      · exact h.n5 g.gb hgs (by rw [← e]; exact q)
      · exact (ho x q).2.2.2 (by rw [e]; exact hgs)
    obtain ⟨t, r⟩ := hr
    exact ⟨t, (r.setOther hne _).setOther hne _⟩
  · rcases set_isPg q with q | q
    · exact h.n3 q
    · exact (ho rb q).2.1 rfl
  · rcases set_isPg q with q | q
    · exact (h.n4 x hx).2 q
    · exact (ho x q).2.2.1 hx
  · rcases set_isPg q with q | q
    · exact h.n5 x (set_isGs.1 hx) q
    · exact (ho x q).2.2.2 (set_isGs.1 hx)

/-! Unmap. -/
def RS.unmapCode (R : RS) (n p : Int) : Int :=
  match findFrom R.L n with
  | none => 4
  | some g => if p < 0 ∨ 64 ≤ p then 5 else match g.P p.toNat with
    | none => 7
    | some _ => 0

set_option maxHeartbeats 2000000 in
theorem runmap_any (w : World) (rb : Nat) (R : RS) (h : Refm w rb R) (n p : Int) :
    Calls Try.prog 75 #[pt rb, .int .i64 n, .int .i64 p] w fun e w' => ∃ R', e = .returned (.int .i64 (R.unmapCode n p)) ∧ Refm w' rb R' ∧ Only (R.own rb) w w' ∧
      (R.unmapCode n p = 0 → ∃ g, findFrom R.L n = some g ∧ R' = R.set g.gb p.toNat none false) ∧ (R.unmapCode n p ≠ 0 → R' = R) := by
  cases hf : findFrom R.L n with
  | none =>
    have HR : Hid (R.unmapCode n p = 4) := by simp only [Hid, RS.unmapCode, hf]
    have HF := hid hf
    clear hf
    go_enter Try.func75, Try.ntmps75
    go_wp2_with fail
    refine (rguest_any _ rb R h n).mono ?_
    rintro e w1 ⟨rfl, rfl⟩
    rw [HF.out]
    simp only [Option.map_none, ptO_none]
    go_wp2
    go_ret
    exact ⟨R, by rw [HR.out]; rfl, h, Only.refl _ _, fun q => by rw [HR.out] at q; omega, fun _ => rfl⟩
  | some g =>
    obtain ⟨hg, _⟩ := findFrom_mem hf
    by_cases ha : p < 0 ∨ 64 ≤ p
    · have HR : Hid (R.unmapCode n p = 5) := by simp only [Hid, RS.unmapCode, hf, ha, if_true]
      have HF := hid hf
      clear hf
      rcases ha with ha | ha
      · go_enter Try.func75, Try.ntmps75
        go_wp2_with fail
        refine (rguest_any _ rb R h n).mono ?_
        rintro e w1 ⟨rfl, rfl⟩
        rw [HF.out]
        simp only [Option.map_some, ptO_some]
        go_wp2
        go_ret
        exact ⟨R, by rw [HR.out]; rfl, h, Only.refl _ _, fun q => by rw [HR.out] at q; omega, fun _ => rfl⟩
      · have ha2 : ¬ p < 0 := by omega
        go_enter Try.func75, Try.ntmps75
        go_wp2_with fail
        refine (rguest_any _ rb R h n).mono ?_
        rintro e w1 ⟨rfl, rfl⟩
        rw [HF.out]
        simp only [Option.map_some, ptO_some]
        go_wp2
        go_ret
        exact ⟨R, by rw [HR.out]; rfl, h, Only.refl _ _, fun q => by rw [HR.out] at q; omega, fun _ => rfl⟩
    · have h0 : 0 ≤ p := by omega
      have h1 : p < 64 := by omega
      obtain ⟨hcp, hcw⟩ := h.gpage hg (p := p.toNat) (by omega)
      obtain ⟨t, r⟩ := h.gs g hg
      have hfz := r.frozen (2 + p.toNat * 2)
      have hfz2 := r.frozen (2 + p.toNat * 2 + 1)
      clear r
      cases hx : g.P p.toNat with
      | none =>
        rw [hx, ptO_none] at hcp
        have HR : Hid (R.unmapCode n p = 7) := by simp only [Hid, RS.unmapCode, hf, ha, if_false, hx]
        have HF := hid hf
        clear hf ha hx
        go_enter Try.func75, Try.ntmps75
        go_wp2_with fail
        refine (rguest_any _ rb R h n).mono ?_
        rintro e w1 ⟨rfl, rfl⟩
        rw [HF.out]
        simp only [Option.map_some, ptO_some]
        go_wp2
        go_ret
        exact ⟨R, by rw [HR.out]; rfl, h, Only.refl _ _, fun q => by rw [HR.out] at q; omega, fun _ => rfl⟩
      | some b =>
        rw [hx, ptO_some] at hcp
        have HR : Hid (R.unmapCode n p = 0) := by simp only [Hid, RS.unmapCode, hf, ha, if_false, hx]
        have HF := hid hf
        have HS := hid (h.set hg (p := p.toNat) (o := none) (b := false) (fun x q => by cases q))
        clear hf ha hx
        go_enter Try.func75, Try.ntmps75
        go_wp2_with fail
        refine (rguest_any _ rb R h n).mono ?_
        rintro e w1 ⟨rfl, rfl⟩
        rw [HF.out]
        simp only [Option.map_some, ptO_some]
        go_wp2
        go_ret
        refine ⟨_, by rw [HR.out]; rfl, HS.out, ?_, fun _ => ⟨g, rfl, rfl⟩, fun q => absurd HR.out q⟩
        have hgs : R.own rb g.gb := Or.inr (Or.inr (Or.inl ⟨g, hg, rfl⟩))
        exact ((Only.refl _ _).setCell (p := ⟨g.gb, _, none⟩) (fun _ => hgs) _).setCell (p := ⟨g.gb, _, none⟩) (fun _ => hgs) _
end Go.Proofs.Ytelilndinnemcaa
