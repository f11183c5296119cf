/- The contracts of the document's New, Read, Write, Unmap. -/
import Derived.Test.YtfcepnhknmbaaaaGreatRefFree
import Derived.Deep.RegionLaw
namespace Go.Proofs.YtfcepnhknmbaaaaGreat
open Go.RowKit Go.Deep

theorem findFrom_mem {L : List RG} {n : Int} {g : RG} (h : findFrom L n = some g) : g ∈ L ∧ g.N = n := by
  have h1 := List.mem_of_find?_eq_some h
  have h2 := List.find?_some h
  exact ⟨h1, by simpa using h2⟩

/-! New. -/
def RS.fresh (n : Nat) : RS := ⟨n, 0, 0, .slice none 0 0, [], fun _ => 0, fun _ _ => 0⟩

set_option maxHeartbeats 400000 in
theorem rnewBad_any (w : World) (n : Int) (hn : n < 4 ∨ 64 < n) :
    Calls Tryz.prog 16 #[.int .i64 n] w fun e w' => e = .returned (.tuple #[.pointer none, .int .i64 1]) ∧ w = w' := by
  rcases hn with h | h
  · go_enter Tryz.func16, Tryz.ntmps16
    go_wp2
    go_ret2
    exact ⟨rfl, rfl⟩
  · have h2 : ¬ n < 4 := by omega
    go_enter Tryz.func16, Tryz.ntmps16
    go_wp2
    go_ret2
    exact ⟨rfl, rfl⟩

set_option maxHeartbeats 400000 in
theorem rnewGood_any (w : World) (n : Int) (h4 : 4 ≤ n) (h64 : n ≤ 64) :
    Calls Tryz.prog 16 #[.int .i64 n] w fun e w' => e = .returned (.tuple #[pt w.heap.size, .int .i64 0]) ∧ Refm w' w.heap.size (RS.fresh n.toNat) ∧ Only Nob w w' := by
  have h1 : ¬ n < 4 := by omega
  have h2 : ¬ 64 < n := by omega
  go_enter Tryz.func16, Tryz.ntmps16
  go_wp2
  go_ret2
  refine ⟨rfl, ?_, (Only.refl _ _).alloc _⟩
  have r := World.rowIs_alloc w #[.int .i64 n, .slice none 0 0, .int .i64 0, .int .i64 0] 72 (RS.fresh n.toNat).cell (fun i hi => by
    have hi : i < 4 := hi
    have e : i = 0 ∨ i = 1 ∨ i = 2 ∨ i = 3 := by omega
    rcases e with e | e | e | e <;> subst e
    · show some (Value.int .i64 n) = some (Value.int .i64 ((n.toNat : Nat) : Int))
      rw [Int.toNat_of_nonneg (by omega)]
    · rfl
    · rfl
    · rfl)
  refine ⟨⟨72, r⟩, World.ownsRow_nil _ _ _ _, fun g hg => (by cases hg), fun b ⟨g, hg, _⟩ => (by cases hg), (by simp [RS.fresh, Value.ownBlock]), fun ⟨g, hg, _⟩ => (by cases hg), fun ⟨g, hg, _⟩ => (by cases hg), fun b hb => (by simp [RS.fresh, Value.ownBlock] at hb), fun b ⟨g, hg, _⟩ => (by cases hg), List.nodup_nil, by simp [RS.fresh]⟩

/-! Read. -/
def RS.readAt (R : RS) (n a : Int) : Int × Int :=
  match findFrom R.L n with
  | none => (0, 4)
  | some g => if a < 0 ∨ 512 ≤ a then (0, 5) else match g.P (a.toNat / 8) with
    | none => (0, 7)
    | some b => (R.Wd b (a.toNat % 8), 0)

set_option maxHeartbeats 1000000 in
theorem rread_any (w : World) (rb : Nat) (R : RS) (h : Refm w rb R) (n a : Int) :
    Calls Tryz.prog 28 #[pt rb, .int .i64 n, .int .i64 a] w fun e w' => e = .returned (.tuple #[.int .i64 (R.readAt n a).1, .int .i64 (R.readAt n a).2]) ∧ w = w' := by
  cases hf : findFrom R.L n with
  | none =>
    have HR : Hid (R.readAt n a = (0, 4)) := by simp only [Hid, RS.readAt, hf]
    have HF := hid hf
    clear hf
    go_enter Tryz.func28, Tryz.ntmps28
    go_wp2_with fail
    refine (rguest_any _ rb R h n).mono ?_
    rintro e w1 ⟨rfl, rfl⟩
    rw [HF.out]
    show _
    simp only [Option.map_none, ptO_none]
    go_wp2
    go_ret2
    exact ⟨by rw [HR.out]; rfl, rfl⟩
  | some g =>
    obtain ⟨hg, _⟩ := findFrom_mem hf
    by_cases ha : a < 0 ∨ 512 ≤ a
    · have HR : Hid (R.readAt n a = (0, 5)) := by simp only [Hid, RS.readAt, hf, ha, if_true]
      have HF := hid hf
      clear hf
      rcases ha with ha | ha
      · go_enter Tryz.func28, Tryz.ntmps28
        go_wp2_with fail
        refine (rguest_any _ rb R h n).mono ?_
        rintro e w1 ⟨rfl, rfl⟩
        rw [HF.out]
        simp only [Option.map_some, ptO_some]
        go_wp2
        go_ret2
        exact ⟨by rw [HR.out]; rfl, rfl⟩
      · have ha2 : ¬ a < 0 := by omega
        go_enter Tryz.func28, Tryz.ntmps28
        go_wp2_with fail
        refine (rguest_any _ rb R h n).mono ?_
        rintro e w1 ⟨rfl, rfl⟩
        rw [HF.out]
        simp only [Option.map_some, ptO_some]
        go_wp2
        go_ret2
        exact ⟨by rw [HR.out]; rfl, rfl⟩
    · have h0 : 0 ≤ a := by omega
      have h1 : a < 512 := by omega
      have hcp := (h.gpage hg (p := a.toNat / 8) (by omega)).1
      rw [show 2 + a.toNat / 8 * 2 = 2 + (a / 8).toNat * 2 by omega] at hcp
      cases hx : g.P (a.toNat / 8) with
      | none =>
        rw [hx, ptO_none] at hcp
        have HR : Hid (R.readAt n a = (0, 7)) := by simp only [Hid, RS.readAt, hf, ha, if_false, hx]
        have HF := hid hf
        clear hf ha hx
        go_enter Tryz.func28, Tryz.ntmps28
        go_wp2_with fail
        refine (rguest_any _ rb R h n).mono ?_
        rintro e w1 ⟨rfl, rfl⟩
        rw [HF.out]
        simp only [Option.map_some, ptO_some]
        go_wp2
        go_ret2
        exact ⟨by rw [HR.out]; rfl, rfl⟩
      | some b =>
        rw [hx, ptO_some] at hcp
        obtain ⟨t, r⟩ := h.ps b ⟨g, hg, a.toNat / 8, by omega, hx⟩
        have hcw : w.cell? ⟨b, 1 + (a % 8).toNat, none⟩ = some (.int .i64 (R.Wd b (a.toNat % 8))) := by
          rw [r.cell (by omega)]
          simp only [RS.pgCell]
          rw [if_neg (by omega), show 1 + (a % 8).toNat - 1 = a.toNat % 8 by omega]
        have HR : Hid (R.readAt n a = (R.Wd b (a.toNat % 8), 0)) := by simp only [Hid, RS.readAt, hf, ha, if_false, hx]
        have HF := hid hf
        clear hf ha hx r
        go_enter Tryz.func28, Tryz.ntmps28
        go_wp2_with fail
        refine (rguest_any _ rb R h n).mono ?_
        rintro e w1 ⟨rfl, rfl⟩
        rw [HF.out]
        simp only [Option.map_some, ptO_some]
        go_wp2
        go_ret2
        exact ⟨by rw [HR.out]; rfl, rfl⟩
end Go.Proofs.YtfcepnhknmbaaaaGreat

/- The contracts of the document's Write, Unmap, Map. -/
namespace Go.Proofs.YtfcepnhknmbaaaaGreat
open Go.RowKit Go.Deep

/-! What turns. -/
def RS.wrote (R : RS) (b k : Nat) (v : Int) : RS := { R with Wd := fun b' k' => if b' = b ∧ k' = k then v else R.Wd b' k' }

theorem Refm.wrote {w : World} {rb : Nat} {R : RS} (h : Refm w rb R) {b k : Nat} {v : Int} (hb : R.isPg b) : Refm (w.setCell ⟨b, 1 + k, none⟩ (.int .i64 v)) rb (R.wrote b k v) := by
  have n3 : b ≠ rb := fun e => h.n3 (by rw [← e]; exact hb)
  have n4 : R.gv.ownBlock ≠ some b := fun e => (h.n4 b e).2 hb
  obtain ⟨t, r⟩ := h.row
  refine ⟨⟨t, r.setOther (fun e => n3 e.symm) _⟩, ⟨h.sl.1, ?_⟩, fun g hg => ?_, fun b' hb' => ?_, h.n1, h.n2, h.n3, h.n4, h.n5, h.nd, h.many⟩
  · rcases h.sl.2 with q | ⟨g, cap, cur, hv, q1, q2, q3⟩
    · exact Or.inl q
    · refine Or.inr ⟨g, cap, cur, hv, q1, ?_, q3⟩
      rw [Below.heap_setCell _ _ _ _ (fun e => n4 (by rw [hv]; simp [Value.ownBlock]; exact e))]
      exact q2
  · obtain ⟨t, r⟩ := h.gs g hg
    exact ⟨t, r.setOther (fun e => h.n5 g.gb ⟨g, hg, rfl⟩ (by rw [e]; exact hb)) _⟩
  · obtain ⟨t, r⟩ := h.ps b' hb'
    by_cases e : b' = b
    · subst e
      refine ⟨t, (r.set (1 + k) _).congr (fun j _ => ?_)⟩
      simp only [RS.pgCell, RS.wrote]
      by_cases e1 : j = 1 + k
      · rw [if_pos e1, if_neg (by omega), if_pos ⟨trivial, by omega⟩]
      · rw [if_neg e1]
        by_cases e2 : j = 0
        · rw [if_pos e2, if_pos e2]
        · rw [if_neg e2, if_neg e2, if_neg (by omega)]
    · refine ⟨t, (r.setOther e _).congr (fun j _ => ?_)⟩
      simp only [RS.pgCell, RS.wrote]
      by_cases e2 : j = 0
      · rw [if_pos e2, if_pos e2]
      · rw [if_neg e2, if_neg e2, if_neg (fun q => e q.1)]

def RS.writeCode (R : RS) (n a v : Int) : Int :=
  match findFrom R.L n with
  | none => 4
  | some g => if a < 0 ∨ 512 ≤ a then 5 else if v < 0 ∨ 65535 < v then 9 else match g.P (a.toNat / 8) with
    | none => 7
    | some _ => if g.Wr (a.toNat / 8) then 0 else 8

set_option maxHeartbeats 2000000 in
theorem rwrite_any (w : World) (rb : Nat) (R : RS) (h : Refm w rb R) (n a v : Int) :
    Calls Tryz.prog 30 #[pt rb, .int .i64 n, .int .i64 a, .int .i64 v] w fun e w' => ∃ R', e = .returned (.int .i64 (R.writeCode n a v)) ∧ Refm w' rb R' ∧ Only (R.own rb) w w' ∧
      (R.writeCode n a v = 0 → ∃ g b, findFrom R.L n = some g ∧ g.P (a.toNat / 8) = some b ∧ R' = R.wrote b (a.toNat % 8) v) ∧ (R.writeCode n a v ≠ 0 → R' = R) := by
  cases hf : findFrom R.L n with
  | none =>
    have HR : Hid (R.writeCode n a v = 4) := by simp only [Hid, RS.writeCode, hf]
    have HF := hid hf
    clear hf
    go_enter Tryz.func30, Tryz.ntmps30
    go_wp2_with fail
    refine (rguest_any _ rb R h n).mono ?_
    rintro e w1 ⟨rfl, rfl⟩
    rw [HF.out]
    simp only [Option.map_none, ptO_none]
    go_wp2
    go_ret
    exact ⟨R, by rw [HR.out]; rfl, h, Only.refl _ _, fun q => by rw [HR.out] at q; omega, fun _ => rfl⟩
  | some g =>
    obtain ⟨hg, _⟩ := findFrom_mem hf
    by_cases ha : a < 0 ∨ 512 ≤ a
    · have HR : Hid (R.writeCode n a v = 5) := by simp only [Hid, RS.writeCode, hf, ha, if_true]
      have HF := hid hf
      clear hf
      rcases ha with ha | ha
      · go_enter Tryz.func30, Tryz.ntmps30
        go_wp2_with fail
        refine (rguest_any _ rb R h n).mono ?_
        rintro e w1 ⟨rfl, rfl⟩
        rw [HF.out]
        simp only [Option.map_some, ptO_some]
        go_wp2
        go_ret
        exact ⟨R, by rw [HR.out]; rfl, h, Only.refl _ _, fun q => by rw [HR.out] at q; omega, fun _ => rfl⟩
      · have ha2 : ¬ a < 0 := by omega
        go_enter Tryz.func30, Tryz.ntmps30
        go_wp2_with fail
        refine (rguest_any _ rb R h n).mono ?_
        rintro e w1 ⟨rfl, rfl⟩
        rw [HF.out]
        simp only [Option.map_some, ptO_some]
        go_wp2
        go_ret
        exact ⟨R, by rw [HR.out]; rfl, h, Only.refl _ _, fun q => by rw [HR.out] at q; omega, fun _ => rfl⟩
    · have h0 : 0 ≤ a := by omega
      have h1 : a < 512 := by omega
      by_cases hv : v < 0 ∨ 65535 < v
      · have HR : Hid (R.writeCode n a v = 9) := by simp only [Hid, RS.writeCode, hf, ha, if_false, hv, if_true]
        have HF := hid hf
        clear hf ha
        rcases hv with hv | hv
        · go_enter Tryz.func30, Tryz.ntmps30
          go_wp2_with fail
          refine (rguest_any _ rb R h n).mono ?_
          rintro e w1 ⟨rfl, rfl⟩
          rw [HF.out]
          simp only [Option.map_some, ptO_some]
          go_wp2
          go_ret
          exact ⟨R, by rw [HR.out]; rfl, h, Only.refl _ _, fun q => by rw [HR.out] at q; omega, fun _ => rfl⟩
        · have hv2 : ¬ v < 0 := by omega
          go_enter Tryz.func30, Tryz.ntmps30
          go_wp2_with fail
          refine (rguest_any _ rb R h n).mono ?_
          rintro e w1 ⟨rfl, rfl⟩
          rw [HF.out]
          simp only [Option.map_some, ptO_some]
          go_wp2
          go_ret
          exact ⟨R, by rw [HR.out]; rfl, h, Only.refl _ _, fun q => by rw [HR.out] at q; omega, fun _ => rfl⟩
      · have hv0 : ¬ v < 0 := by omega
        have hv1 : ¬ 65535 < v := by omega
        obtain ⟨hcp, hcw⟩ := h.gpage hg (p := a.toNat / 8) (by omega)
        rw [show 2 + a.toNat / 8 * 2 = 2 + (a / 8).toNat * 2 by omega] at hcp hcw
        cases hx : g.P (a.toNat / 8) with
        | none =>
          rw [hx, ptO_none] at hcp
          have HR : Hid (R.writeCode n a v = 7) := by simp only [Hid, RS.writeCode, hf, ha, if_false, hv, hx]
          have HF := hid hf
          clear hf ha hx hv
          go_enter Tryz.func30, Tryz.ntmps30
          go_wp2_with fail
          refine (rguest_any _ rb R h n).mono ?_
          rintro e w1 ⟨rfl, rfl⟩
          rw [HF.out]
          simp only [Option.map_some, ptO_some]
          go_wp2
          go_ret
          exact ⟨R, by rw [HR.out]; rfl, h.nob ((Only.refl _ _).alloc _), (Only.refl _ _).alloc _, fun q => by rw [HR.out] at q; omega, fun _ => rfl⟩
        | some b =>
          rw [hx, ptO_some] at hcp
          have hpb : R.isPg b := ⟨g, hg, a.toNat / 8, by omega, hx⟩
          cases hw : g.Wr (a.toNat / 8) with
          | false =>
            rw [hw] at hcw
            have HR : Hid (R.writeCode n a v = 8) := by simp only [Hid, RS.writeCode, hf, ha, if_false, hv, hx, hw]; rfl
            have HF := hid hf
            clear hf ha hx hv hw
            go_enter Tryz.func30, Tryz.ntmps30
            go_wp2_with fail
            refine (rguest_any _ rb R h n).mono ?_
            rintro e w1 ⟨rfl, rfl⟩
            rw [HF.out]
            simp only [Option.map_some, ptO_some]
            go_wp2
            go_ret
            exact ⟨R, by rw [HR.out]; rfl, h.nob ((Only.refl _ _).alloc _), (Only.refl _ _).alloc _, fun q => by rw [HR.out] at q; omega, fun _ => rfl⟩
          | true =>
            rw [hw] at hcw
            obtain ⟨t, r⟩ := h.ps b hpb
            have hcd : w.cell? ⟨b, 1 + (a % 8).toNat, none⟩ = some (.int .i64 (R.Wd b (a.toNat % 8))) := by
              rw [r.cell (by omega)]
              simp only [RS.pgCell]
              rw [if_neg (by omega), show 1 + (a % 8).toNat - 1 = a.toNat % 8 by omega]
            have hfz := r.frozen (1 + (a % 8).toNat)
            have hblt := r.lt
            have hcd' : ∀ q, (w.alloc q).cell? ⟨b, 1 + (a % 8).toNat, none⟩ = some (.int .i64 (R.Wd b (a.toNat % 8))) := fun q => by rw [World.cell?_alloc_lt _ _ _ hblt]; exact hcd
            have hfz' : ∀ q, (w.alloc q).frozen? ⟨b, 1 + (a % 8).toNat, none⟩ = false := fun q => by rw [World.frozen?_alloc_old _ _ _ (by simp; omega)]; exact hfz
            have HR : Hid (R.writeCode n a v = 0) := by simp only [Hid, RS.writeCode, hf, ha, if_false, hv, hx, hw]; rfl
            have HF := hid hf
            have HX := hid hx
            clear hf ha hx hv hw r
            go_enter Tryz.func30, Tryz.ntmps30
            go_wp2_with fail
            refine (rguest_any _ rb R h n).mono ?_
            rintro e w1 ⟨rfl, rfl⟩
            rw [HF.out]
            simp only [Option.map_some, ptO_some]
            go_wp2
            go_ret
            have hw2 := (h.wrote (k := a.toNat % 8) (v := v) hpb).nob ((Only.refl Nob _).alloc (.cells #[pt b, .bool true] 77))
            rw [show 1 + a.toNat % 8 = 1 + (a % 8).toNat by omega] at hw2
            refine ⟨_, by rw [HR.out]; rfl, hw2, ?_, fun _ => ⟨g, b, rfl, HX.out, rfl⟩, fun q => absurd HR.out q⟩
            exact ((Only.refl _ _).setCell (p := ⟨b, 1 + (a % 8).toNat, none⟩) (fun _ => Or.inr (Or.inr (Or.inr hpb))) _).alloc _

/-- A guest's page is another one. -/
def RG.set (g : RG) (p : Nat) (o : Option Nat) (b : Bool) : RG := { g with P := fun q => if q = p then o else g.P q, Wr := fun q => if q = p then b else g.Wr q }
def setAt (gb p : Nat) (o : Option Nat) (b : Bool) (g : RG) : RG := if g.gb = gb then g.set p o b else g
def RS.set (R : RS) (gb p : Nat) (o : Option Nat) (b : Bool) : RS := { R with L := R.L.map (setAt gb p o b) }

theorem setAt_gb (gb p : Nat) (o : Option Nat) (b : Bool) (g : RG) : (setAt gb p o b g).gb = g.gb := by
  simp only [setAt]
  split <;> rfl
theorem set_gbs (R : RS) (gb p : Nat) (o : Option Nat) (b : Bool) : (R.set gb p o b).L.map (fun g => g.gb) = R.L.map (fun g => g.gb) := by
  simp only [RS.set, List.map_map]
  congr 1
  funext g
  exact setAt_gb gb p o b g
theorem set_isGs {R : RS} {gb p : Nat} {o : Option Nat} {b : Bool} {x : Nat} : (R.set gb p o b).isGs x ↔ R.isGs x := by
  constructor
  · rintro ⟨g, hg, e⟩
    obtain ⟨g', hg', rfl⟩ := List.mem_map.1 hg
    rw [setAt_gb] at e
    exact ⟨g', hg', e⟩
  · rintro ⟨g, hg, e⟩
    exact ⟨_, List.mem_map.2 ⟨g, hg, rfl⟩, by rw [setAt_gb]; exact e⟩
theorem set_isPg {R : RS} {gb p : Nat} {o : Option Nat} {b : Bool} {x : Nat} (h : (R.set gb p o b).isPg x) : R.isPg x ∨ o = some x := by
  obtain ⟨g, hg, q, hq, e⟩ := h
  obtain ⟨g', hg', rfl⟩ := List.mem_map.1 hg
  simp only [setAt] at e
  split at e
  · simp only [RG.set] at e
    split at e
    · exact Or.inr e
    · exact Or.inl ⟨g', hg', q, hq, e⟩
  · exact Or.inl ⟨g', hg', q, hq, e⟩

theorem setAt_cell (g : RG) (p : Nat) (o : Option Nat) (b : Bool) (j : Nat) (_hj : j < 130) : (g.set p o b).cell j = if j = 2 + p * 2 + 1 then .bool b else if j = 2 + p * 2 then ptO o else g.cell j := by
  simp only [RG.cell, RG.set]
  by_cases e0 : j = 0
  · rw [if_pos e0, if_neg (by omega), if_neg (by omega), if_pos e0]
  · rw [if_neg e0]
    by_cases e1 : j = 1
    · rw [if_pos e1, if_neg (by omega), if_neg (by omega), if_neg e0, if_pos e1]
    · rw [if_neg e1]
      by_cases e2 : j % 2 = 0
      · rw [if_pos e2]
        by_cases e3 : j = 2 + p * 2
        · have e4 : (j - 2) / 2 = p := by omega
          rw [if_pos e4, if_neg (show ¬ j = 2 + p * 2 + 1 by omega), if_pos e3]
        · have e4 : ¬ (j - 2) / 2 = p := by omega
          rw [if_neg e4, if_neg (show ¬ j = 2 + p * 2 + 1 by omega), if_neg e3, if_neg e0, if_neg e1, if_pos e2]
      · rw [if_neg e2]
        by_cases e3 : j = 2 + p * 2 + 1
        · have e4 : (j - 3) / 2 = p := by omega
          rw [if_pos e4, if_pos e3]
        · have e4 : ¬ (j - 3) / 2 = p := by omega
          rw [if_neg e4, if_neg e3, if_neg (show ¬ j = 2 + p * 2 by omega), if_neg e0, if_neg e1, if_neg e2]

/-- The two cells of a guest's page are written; where a page comes, its block lies already. -/
theorem Refm.set {w : World} {rb : Nat} {R : RS} (h : Refm w rb R) {g : RG} (hg : g ∈ R.L) {p : Nat} {o : Option Nat} {b : Bool}
    (ho : ∀ x, o = some x → (∃ t, w.rowIs x t 9 (R.pgCell x)) ∧ x ≠ rb ∧ R.gv.ownBlock ≠ some x ∧ ¬ R.isGs x) :
    Refm ((w.setCell ⟨g.gb, 2 + p * 2, none⟩ (ptO o)).setCell ⟨g.gb, 2 + p * 2 + 1, none⟩ (.bool b)) rb (R.set g.gb p o b) := by
  have hgs : R.isGs g.gb := ⟨g, hg, rfl⟩
  have e1 : rb ≠ g.gb := fun e => h.n2 (by rw [e]; exact hgs)
  have e2 : R.gv.ownBlock ≠ some g.gb := fun e => (h.n4 _ e).1 hgs
  obtain ⟨t, r⟩ := h.row
  refine ⟨⟨t, (r.setOther e1 _).setOther e1 _⟩, ⟨by simp only [RS.set, List.map_map, List.length_map, Nat.mul_one], ?_⟩, fun x hx => ?_, fun x hx => ?_, h.n1, fun q => h.n2 (set_isGs.1 q), fun q => ?_, fun x hx => ⟨fun q => (h.n4 x hx).1 (set_isGs.1 q), fun q => ?_⟩, fun x hx q => ?_, by rw [set_gbs]; exact h.nd, by simp only [RS.set, List.length_map]; exact h.many⟩
  · have hs := h.sl.2
    have e3 : (R.set g.gb p o b).L.map (fun g => pt g.gb) = R.L.map (fun g => pt g.gb) := by
      have := congrArg (List.map pt) (set_gbs R g.gb p o b)
      simp only [List.map_map] at this ⊢
      exact this
    have e4 : (R.set g.gb p o b).L.length = R.L.length := by simp only [RS.set, List.length_map]
    rw [e3, e4]
    rcases hs with q | ⟨sb, cap, cur, hv, q1, q2, q3⟩
    · exact Or.inl q
    · refine Or.inr ⟨sb, cap, cur, hv, q1, ?_, q3⟩
      have e5 : sb ≠ g.gb := fun e => e2 (by rw [hv, ← e]; rfl)
      rw [Below.heap_setCell _ _ _ _ e5, Below.heap_setCell _ _ _ _ e5]
      exact q2
  · obtain ⟨g', hg', rfl⟩ := List.mem_map.1 hx
    obtain ⟨t, r⟩ := h.gs g' hg'
    rw [setAt_gb]
    by_cases e : g'.gb = g.gb
    · simp only [setAt, e, if_true]
      rw [e] at r
      refine ⟨t, ((r.set _ _).set _ _).congr (fun j hj => ?_)⟩
      rw [setAt_cell g' p o b j hj]
    · simp only [setAt, e, if_false]
      exact ⟨t, (r.setOther e _).setOther e _⟩
  · have hr : ∃ t, w.rowIs x t 9 (R.pgCell x) := (set_isPg hx).elim (h.ps x) (fun q => (ho x q).1)
    have hne : x ≠ g.gb := fun e => by
      rcases set_isPg hx with q | q
      · exact h.n5 g.gb hgs (by rw [← e]; exact q)
      · exact (ho x q).2.2.2 (by rw [e]; exact hgs)
    obtain ⟨t, r⟩ := hr
    exact ⟨t, (r.setOther hne _).setOther hne _⟩
  · rcases set_isPg q with q | q
    · exact h.n3 q
    · exact (ho rb q).2.1 rfl
  · rcases set_isPg q with q | q
    · exact (h.n4 x hx).2 q
    · exact (ho x q).2.2.1 hx
  · rcases set_isPg q with q | q
    · exact h.n5 x (set_isGs.1 hx) q
    · exact (ho x q).2.2.2 (set_isGs.1 hx)

/-! Unmap. -/
def RS.unmapCode (R : RS) (n p : Int) : Int :=
  match findFrom R.L n with
  | none => 4
  | some g => if p < 0 ∨ 64 ≤ p then 5 else match g.P p.toNat with
    | none => 7
    | some _ => 0

set_option maxHeartbeats 2000000 in
theorem runmap_any (w : World) (rb : Nat) (R : RS) (h : Refm w rb R) (n p : Int) :
    Calls Tryz.prog 26 #[pt rb, .int .i64 n, .int .i64 p] w fun e w' => ∃ R', e = .returned (.int .i64 (R.unmapCode n p)) ∧ Refm w' rb R' ∧ Only (R.own rb) w w' ∧
      (R.unmapCode n p = 0 → ∃ g, findFrom R.L n = some g ∧ R' = R.set g.gb p.toNat none false) ∧ (R.unmapCode n p ≠ 0 → R' = R) := by
  cases hf : findFrom R.L n with
  | none =>
    have HR : Hid (R.unmapCode n p = 4) := by simp only [Hid, RS.unmapCode, hf]
    have HF := hid hf
    clear hf
    go_enter Tryz.func26, Tryz.ntmps26
    go_wp2_with fail
    refine (rguest_any _ rb R h n).mono ?_
    rintro e w1 ⟨rfl, rfl⟩
    rw [HF.out]
    simp only [Option.map_none, ptO_none]
    go_wp2
    go_ret
    exact ⟨R, by rw [HR.out]; rfl, h, Only.refl _ _, fun q => by rw [HR.out] at q; omega, fun _ => rfl⟩
  | some g =>
    obtain ⟨hg, _⟩ := findFrom_mem hf
    by_cases ha : p < 0 ∨ 64 ≤ p
    · have HR : Hid (R.unmapCode n p = 5) := by simp only [Hid, RS.unmapCode, hf, ha, if_true]
      have HF := hid hf
      clear hf
      rcases ha with ha | ha
      · go_enter Tryz.func26, Tryz.ntmps26
        go_wp2_with fail
        refine (rguest_any _ rb R h n).mono ?_
        rintro e w1 ⟨rfl, rfl⟩
        rw [HF.out]
        simp only [Option.map_some, ptO_some]
        go_wp2
        go_ret
        exact ⟨R, by rw [HR.out]; rfl, h, Only.refl _ _, fun q => by rw [HR.out] at q; omega, fun _ => rfl⟩
      · have ha2 : ¬ p < 0 := by omega
        go_enter Tryz.func26, Tryz.ntmps26
        go_wp2_with fail
        refine (rguest_any _ rb R h n).mono ?_
        rintro e w1 ⟨rfl, rfl⟩
        rw [HF.out]
        simp only [Option.map_some, ptO_some]
        go_wp2
        go_ret
        exact ⟨R, by rw [HR.out]; rfl, h, Only.refl _ _, fun q => by rw [HR.out] at q; omega, fun _ => rfl⟩
    · have h0 : 0 ≤ p := by omega
      have h1 : p < 64 := by omega
      obtain ⟨hcp, hcw⟩ := h.gpage hg (p := p.toNat) (by omega)
      obtain ⟨t, r⟩ := h.gs g hg
      have hfz := r.frozen (2 + p.toNat * 2)
      have hfz2 := r.frozen (2 + p.toNat * 2 + 1)
      clear r
      cases hx : g.P p.toNat with
      | none =>
        rw [hx, ptO_none] at hcp
        have HR : Hid (R.unmapCode n p = 7) := by simp only [Hid, RS.unmapCode, hf, ha, if_false, hx]
        have HF := hid hf
        clear hf ha hx
        go_enter Tryz.func26, Tryz.ntmps26
        go_wp2_with fail
        refine (rguest_any _ rb R h n).mono ?_
        rintro e w1 ⟨rfl, rfl⟩
        rw [HF.out]
        simp only [Option.map_some, ptO_some]
        go_wp2
        go_ret
        exact ⟨R, by rw [HR.out]; rfl, h, Only.refl _ _, fun q => by rw [HR.out] at q; omega, fun _ => rfl⟩
      | some b =>
        rw [hx, ptO_some] at hcp
        have HR : Hid (R.unmapCode n p = 0) := by simp only [Hid, RS.unmapCode, hf, ha, if_false, hx]
        have HF := hid hf
        have HS := hid (h.set hg (p := p.toNat) (o := none) (b := false) (fun x q => by cases q))
        clear hf ha hx
        go_enter Tryz.func26, Tryz.ntmps26
        go_wp2_with fail
        refine (rguest_any _ rb R h n).mono ?_
        rintro e w1 ⟨rfl, rfl⟩
        rw [HF.out]
        simp only [Option.map_some, ptO_some]
        go_wp2
        go_ret
        refine ⟨_, by rw [HR.out]; rfl, HS.out, ?_, fun _ => ⟨g, rfl, rfl⟩, fun q => absurd HR.out q⟩
        have hgs : R.own rb g.gb := Or.inr (Or.inr (Or.inl ⟨g, hg, rfl⟩))
        exact ((Only.refl _ _).setCell (p := ⟨g.gb, _, none⟩) (fun _ => hgs) _).setCell (p := ⟨g.gb, _, none⟩) (fun _ => hgs) _
end Go.Proofs.YtfcepnhknmbaaaaGreat

/- The contract of the document's Map. -/
namespace Go.Proofs.YtfcepnhknmbaaaaGreat
open Go.RowKit Go.Deep

def RS.mapCode (R : RS) (n p : Int) : Int :=
  match findFrom R.L n with
  | none => 4
  | some g => if p < 0 ∨ 64 ≤ p then 5 else match g.P p.toNat with
    | some _ => 6
    | none => if R.free < 1 + g.takes (p.toNat / 8) then 3 else 0

/-- A page more, of block pb. -/
def RS.paged (R : RS) (pb : Nat) : RS := { R with made := R.made + 1, Id := fun b => if b = pb then R.made + 1 else R.Id b, Wd := fun b k => if b = pb then 0 else R.Wd b k }

theorem isPg_lt {w : World} {rb : Nat} {R : RS} (h : Refm w rb R) {b : Nat} (hb : R.isPg b) : b < w.heap.size := h.own_lt (Or.inr (Or.inr (Or.inr hb)))
theorem isGs_lt {w : World} {rb : Nat} {R : RS} (h : Refm w rb R) {b : Nat} (hb : R.isGs b) : b < w.heap.size := h.own_lt (Or.inr (Or.inr (Or.inl hb)))

/-- The number of pages has grown, and a block of a page lies. -/
theorem Refm.paged {w : World} {rb : Nat} {R : RS} (h : Refm w rb R) :
    Refm ((w.setCell ⟨rb, 3, none⟩ (.int .i64 (R.made + 1))).alloc (.cells #[.int .i64 (R.made + 1), .int .i64 0, .int .i64 0, .int .i64 0, .int .i64 0, .int .i64 0, .int .i64 0, .int .i64 0, .int .i64 0] 83)) rb (R.paged w.heap.size) ∧
    ((w.setCell ⟨rb, 3, none⟩ (.int .i64 (R.made + 1))).alloc (.cells #[.int .i64 (R.made + 1), .int .i64 0, .int .i64 0, .int .i64 0, .int .i64 0, .int .i64 0, .int .i64 0, .int .i64 0, .int .i64 0] 83)).rowIs w.heap.size 83 9 ((R.paged w.heap.size).pgCell w.heap.size) := by
  have hlt := h.lt
  constructor
  · obtain ⟨t, r⟩ := h.row
    refine ⟨⟨t, ((r.set 3 _).congr (fun j hj => ?_)).alloc _⟩, ⟨h.sl.1, ?_⟩, fun g hg => ?_, fun b hb => ?_, h.n1, h.n2, h.n3, h.n4, h.n5, h.nd, h.many⟩
    · have e : j = 0 ∨ j = 1 ∨ j = 2 ∨ j = 3 := by omega
      rcases e with e | e | e | e <;> subst e <;> rfl
    · rcases h.sl.2 with q | ⟨g, cap, cur, hv, q1, q2, q3⟩
      · exact Or.inl q
      · refine Or.inr ⟨g, cap, cur, hv, q1, ?_, q3⟩
        have hg : R.gv.ownBlock = some g := by rw [hv]; rfl
        rw [Below.heap_alloc _ _ _ (by rw [World.size_setCell]; exact (h.sl.lt g hg).2), Below.heap_setCell _ _ _ _ (fun e => h.n1 (by rw [hg]; exact congrArg some e))]
        exact q2
    · obtain ⟨t, r⟩ := h.gs g hg
      exact ⟨t, (r.setOther (fun e => h.n2 ⟨g, hg, e⟩) _).alloc _⟩
    · have hb : R.isPg b := hb
      obtain ⟨t, r⟩ := h.ps b hb
      have hblt := isPg_lt h hb
      refine ⟨t, ((r.setOther (fun e => h.n3 (by rw [← show b = rb from e]; exact hb)) _).alloc _).congr (fun j _ => ?_)⟩
      simp only [RS.pgCell, RS.paged]
      rw [if_neg (show ¬ b = w.heap.size by omega), if_neg (show ¬ b = w.heap.size by omega)]
  · have r := World.rowIs_alloc (w.setCell ⟨rb, 3, none⟩ (.int .i64 (R.made + 1))) #[.int .i64 (R.made + 1), .int .i64 0, .int .i64 0, .int .i64 0, .int .i64 0, .int .i64 0, .int .i64 0, .int .i64 0, .int .i64 0] 83 ((R.paged w.heap.size).pgCell w.heap.size) (fun i hi => by
      have hi : i < 9 := hi
      simp only [RS.pgCell, RS.paged, if_true]
      have e : i = 0 ∨ i = 1 ∨ i = 2 ∨ i = 3 ∨ i = 4 ∨ i = 5 ∨ i = 6 ∨ i = 7 ∨ i = 8 := by omega
      rcases e with e | e | e | e | e | e | e | e | e <;> subst e <;> rfl)
    rw [World.size_setCell] at r
    exact r

theorem Refm.came {w : World} {rb : Nat} {R : RS} (h : Refm w rb R) {g : RG} (hg : g ∈ R.L) (p : Nat) (b : Bool) :
    Refm ((((w.setCell ⟨rb, 3, none⟩ (.int .i64 (R.made + 1))).setCell ⟨g.gb, 2 + p * 2, none⟩ (pt w.heap.size)).setCell ⟨g.gb, 2 + p * 2 + 1, none⟩ (.bool b)).alloc (.cells #[.int .i64 (R.made + 1), .int .i64 0, .int .i64 0, .int .i64 0, .int .i64 0, .int .i64 0, .int .i64 0, .int .i64 0, .int .i64 0] 83)).drew rb ((R.paged w.heap.size).set g.gb p (some w.heap.size) b) := by
  obtain ⟨h1, h2⟩ := h.paged
  have hglt := isGs_lt h ⟨g, hg, rfl⟩
  have hrlt := h.lt
  have h3 := h1.set (g := g) hg (p := p) (o := some w.heap.size) (b := b) (fun x q => by
    injection q with q
    subst q
    refine ⟨⟨83, h2⟩, by omega, fun e => ?_, fun q => ?_⟩
    · have := (h.sl.lt _ e).2
      omega
    · have := isGs_lt h q
      omega)
  rw [World.setCell_alloc_past _ _ _ _ (by rw [World.size_setCell]; exact hglt), World.setCell_alloc_past _ _ _ _ (by rw [World.size_setCell, World.size_setCell]; exact hglt)] at h3
  exact h3.nob (Only.refl Nob _).drew

theorem takes_le (g : RG) (k : Nat) : g.takes k ≤ 1 := by simp only [RG.takes]; split <;> omega

theorem RS.free_bd (R : RS) (hn : R.n ≤ 64) (hm : R.L.length ≤ 4) : -1000 ≤ R.free ∧ R.free ≤ 64 := by
  have h1 := tabsL_le R.L
  have h2 := seenL_len R.Id R.L R.L.length (Nat.le_refl _)
  rw [List.take_length] at h2
  simp only [RS.free]
  omega

set_option maxRecDepth 100000 in
set_option maxHeartbeats 2000000 in
theorem rmapGood_any (w : World) (rb : Nat) (R : RS) (h : Refm w rb R) (hn : R.n ≤ 64) (hmd : R.made < 1000000000000000000) (n p : Int) (b : Bool) (g : RG) (hf : findFrom R.L n = some g) (h0 : 0 ≤ p) (h1 : p < 64) (hx : g.P p.toNat = none) (hfr : ¬ R.free < 1 + g.takes (p.toNat / 8)) :
    Calls Tryz.prog 24 #[pt rb, .int .i64 n, .int .i64 p, .bool b] w fun e w' => ∃ pb, e = .returned (.int .i64 0) ∧ w.heap.size ≤ pb ∧ Refm w' rb ((R.paged pb).set g.gb p.toNat (some pb) b) ∧ Only (R.own rb) w w' := by
  obtain ⟨hg, _⟩ := findFrom_mem hf
  have hfb := R.free_bd hn h.many
  have htl := takes_le g (p.toNat / 8)
  have hcp := (h.gpage hg (p := p.toNat) (by omega)).1
  rw [hx, ptO_none] at hcp
  have HF := hid hf
  clear hf hx
  go_enter Tryz.func24, Tryz.ntmps24
  go_wp2_with fail
  refine (rguest_any _ rb R h n).mono ?_
  rintro e w1 ⟨rfl, rfl⟩
  rw [HF.out]
  simp only [Option.map_some, ptO_some]
  go_wp2_with fail
  refine (rfree_any _ rb R h hn).mono ?_
  rintro e w1 ⟨rfl, ho1⟩
  have hR1 := h.nob ho1
  go_wp2_with fail
  refine (rtakes_any _ rb R hR1 g hg p h0 h1).mono ?_
  rintro e w2 ⟨rfl, rfl⟩
  have c3 := hR1.c3
  have f3 := hR1.fz 3
  obtain ⟨hcp2, hcw2⟩ := hR1.gpage hg (p := p.toNat) (by omega)
  obtain ⟨t, r⟩ := hR1.gs g hg
  have fz1 := r.frozen (2 + p.toNat * 2)
  have fz2 := r.frozen (2 + p.toNat * 2 + 1)
  have hglt := r.lt
  have hrlt := hR1.lt
  have hne : g.gb ≠ rb := fun e => h.n2 ⟨g, hg, e⟩
  clear r
  generalize R.free = fr at *
  generalize g.takes (p.toNat / 8) = tk at *
  go_wp2_with fail
  go_region
  go_wp2
  go_ret
  refine ⟨w1.heap.size, rfl, ho1.size, hR1.came hg p.toNat b, ?_⟩
  have hr : R.own rb rb := Or.inl rfl
  have hgs : R.own rb g.gb := Or.inr (Or.inr (Or.inl ⟨g, hg, rfl⟩))
  exact (((((ho1.of_nob (S := R.own rb)).setCell (p := ⟨rb, 3, none⟩) (fun _ => hr) _).setCell (p := ⟨g.gb, _, none⟩) (fun _ => hgs) _).setCell (p := ⟨g.gb, _, none⟩) (fun _ => hgs) _).alloc _).drew

set_option maxRecDepth 100000 in
set_option maxHeartbeats 2000000 in
theorem rmapBad_any (w : World) (rb : Nat) (R : RS) (h : Refm w rb R) (hn : R.n ≤ 64) (n p : Int) (b : Bool) (hc : R.mapCode n p ≠ 0) :
    Calls Tryz.prog 24 #[pt rb, .int .i64 n, .int .i64 p, .bool b] w fun e w' => e = .returned (.int .i64 (R.mapCode n p)) ∧ Only Nob w w' := by
  cases hf : findFrom R.L n with
  | none =>
    have HR : Hid (R.mapCode n p = 4) := by simp only [Hid, RS.mapCode, hf]
    have HF := hid hf
    clear hf hc
    go_enter Tryz.func24, Tryz.ntmps24
    go_wp2_with fail
    refine (rguest_any _ rb R h n).mono ?_
    rintro e w1 ⟨rfl, rfl⟩
    rw [HF.out]
    simp only [Option.map_none, ptO_none]
    go_wp2
    go_ret
    exact ⟨by rw [HR.out]; rfl, Only.refl _ _⟩
  | some g =>
    obtain ⟨hg, _⟩ := findFrom_mem hf
    by_cases ha : p < 0 ∨ 64 ≤ p
    · have HR : Hid (R.mapCode n p = 5) := by simp only [Hid, RS.mapCode, hf, ha, if_true]
      have HF := hid hf
      clear hf hc
      rcases ha with ha | ha
      · go_enter Tryz.func24, Tryz.ntmps24
        go_wp2_with fail
        refine (rguest_any _ rb R h n).mono ?_
        rintro e w1 ⟨rfl, rfl⟩
        rw [HF.out]
        simp only [Option.map_some, ptO_some]
        go_wp2
        go_ret
        exact ⟨by rw [HR.out]; rfl, Only.refl _ _⟩
      · have ha2 : ¬ p < 0 := by omega
        go_enter Tryz.func24, Tryz.ntmps24
        go_wp2_with fail
        refine (rguest_any _ rb R h n).mono ?_
        rintro e w1 ⟨rfl, rfl⟩
        rw [HF.out]
        simp only [Option.map_some, ptO_some]
        go_wp2
        go_ret
        exact ⟨by rw [HR.out]; rfl, Only.refl _ _⟩
    · have h0 : 0 ≤ p := by omega
      have h1 : p < 64 := by omega
      have hcp := (h.gpage hg (p := p.toNat) (by omega)).1
      cases hx : g.P p.toNat with
      | some pb =>
        rw [hx, ptO_some] at hcp
        have HR : Hid (R.mapCode n p = 6) := by simp only [Hid, RS.mapCode, hf, ha, if_false, hx]
        have HF := hid hf
        clear hf ha hx hc
        go_enter Tryz.func24, Tryz.ntmps24
        go_wp2_with fail
        refine (rguest_any _ rb R h n).mono ?_
        rintro e w1 ⟨rfl, rfl⟩
        rw [HF.out]
        simp only [Option.map_some, ptO_some]
        go_wp2_with fail
        go_ret
        exact ⟨by rw [HR.out]; rfl, Only.refl _ _⟩
      | none =>
        rw [hx, ptO_none] at hcp
        have hfr : R.free < 1 + g.takes (p.toNat / 8) := by
          apply Classical.byContradiction
          intro q
          apply hc
          simp only [RS.mapCode, hf, ha, if_false, hx, q]
        have HR : Hid (R.mapCode n p = 3) := by simp only [Hid, RS.mapCode, hf, ha, if_false, hx, hfr, if_true]
        have HF := hid hf
        have hfb := R.free_bd hn h.many
        have htl := takes_le g (p.toNat / 8)
        clear hf ha hx hc
        go_enter Tryz.func24, Tryz.ntmps24
        go_wp2_with fail
        refine (rguest_any _ rb R h n).mono ?_
        rintro e w1 ⟨rfl, rfl⟩
        rw [HF.out]
        simp only [Option.map_some, ptO_some]
        go_wp2_with fail
        refine (rfree_any _ rb R h hn).mono ?_
        rintro e w1 ⟨rfl, ho1⟩
        have hR1 := h.nob ho1
        go_wp2_with fail
        refine (rtakes_any _ rb R hR1 g hg p h0 h1).mono ?_
        rintro e w2 ⟨rfl, rfl⟩
        generalize R.free = fr at *
        generalize g.takes (p.toNat / 8) = tk at *
        go_wp2_with fail
        go_ret
        exact ⟨by rw [HR.out]; rfl, ho1⟩
end Go.Proofs.YtfcepnhknmbaaaaGreat

/- The contracts of the document's Create and Destroy. -/
namespace Go.Proofs.YtfcepnhknmbaaaaGreat
open Go.RowKit Go.Deep

/-- append onto a slice that is owned, as one step of a region that draws. -/
theorem step_append_own {P : Program} {ops : Array Oper} {o : Oper} {a : Act} {w : World} {K : Act → World → Prop} {Q : Exit → Act → World → Prop} {E : Prop}
    (hg : o.guard = none) (s x : Operand) (t : TypeId) (hop : o.op = Op.call { callee := Callee.builtin Builtin.append, args := #[s, x], argTypes := #[t, t] })
    (base : Nat) (e : TypeId) (i : TypeInfo) (z : Value) (size bytes : Nat) (ht : P.underlying t = some (.slice e)) (hi : P.info? e = some i) (hz : i.zero = some z)
    (hsize : i.size = size) (hby : i.bytes = bytes) (hzs : z.cells.size = size) (hsz : 0 < size)
    (v : Value) (n : Nat) (xs : List Value) (hs : a.eval s = v) (hown : w.ownsRow base e size v n xs)
    (ad : Addr) (m c : Nat) (news : List Value) (hx : a.eval x = .slice (some ad) m c) (hl : news.length = m * size) (hnews : ∀ j u, news[j]? = some u → w.cell? (ad.add j) = some u) (h1 : ∀ u ∈ news, u.oneCell' = true)
    (h63 : n + m ≤ maxLen) (hbytes : (n + m) * bytes ≤ 140737488355328) (hbase : base ≤ w.heap.size)
    (hK : ∀ v' w', w'.ownsRow base e size v' (n + m) (xs ++ news) → w.grownBy w' v.ownBlock → (v'.ownBlock = v.ownBlock ∨ v'.ownBlock = some w.heap.size) → K (a.put o.dst v') w') :
    if Region.wanted o (yielded ops a.tmps) = true then Oper.wp P o a w K Q else E := by
  have hw : Region.wanted o (yielded ops a.tmps) = true := by simp [Region.wanted, hg]
  rw [if_pos hw]
  obtain ⟨v', w', hrun, r1, r2, _, r3⟩ := run_append_own_at (P := P) w base t o.type e i z size bytes ht hi hz hsize hby hzs hsz v n xs hown ad m c news hl hnews h1 h63 hbytes hbase
  unfold Oper.wp
  simp [execOp, hop, resolve, invoke, builtin, hs, hx, hrun, Result.andThen]
  exact hK v' w' r1 r2 r3

theorem ptr_info : (Tryz.prog.info? 74).map (fun i => (i.zero, i.size, i.bytes)) = some (some (.pointer none), 1, 8) := by kernel_rfl

def RS.createCode (R : RS) : Int := if 4 ≤ R.L.length then 2 else if R.free < 1 then 3 else 0
def newG (n : Int) (gb : Nat) : RG := ⟨n, -1, gb, fun _ => none, fun _ => false⟩
def RS.created (R : RS) (v : Value) (gb : Nat) : RS := { R with last := R.last + 1, gv := v, L := R.L ++ [newG (R.last + 1) gb] }

set_option maxHeartbeats 1000000 in
theorem rcreateMany_any (w : World) (rb : Nat) (R : RS) (h : Refm w rb R) (hc : 4 ≤ R.L.length) :
    Calls Tryz.prog 20 #[pt rb] w fun e w' => e = .returned (.tuple #[.int .i64 0, .int .i64 2]) ∧ w = w' := by
  have c1 := h.c1
  have hm := h.many
  obtain ⟨sb, cap, hgv, _⟩ := h.slice (by omega)
  rw [hgv] at c1
  go_enter Tryz.func20, Tryz.ntmps20
  go_wp2
  go_ret2
  exact ⟨rfl, rfl⟩

theorem gv_shape {w : World} {rb : Nat} {R : RS} (h : Refm w rb R) : ∃ a cap, R.gv = .slice a R.L.length cap := by
  rcases h.sl.2 with ⟨q, e⟩ | ⟨g, cap, cur, hv, _⟩
  · exact ⟨none, 0, by rw [q, e]⟩
  · exact ⟨_, cap, hv⟩

set_option maxHeartbeats 1000000 in
theorem rcreateFull_any (w : World) (rb : Nat) (R : RS) (h : Refm w rb R) (hn : R.n ≤ 64) (hc : R.L.length < 4) (hf : R.free < 1) :
    Calls Tryz.prog 20 #[pt rb] w fun e w' => e = .returned (.tuple #[.int .i64 0, .int .i64 3]) ∧ Only Nob w w' := by
  have c1 := h.c1
  obtain ⟨sa, cap, hgv⟩ := gv_shape h
  rw [hgv] at c1
  clear hgv
  have hfb := R.free_bd hn h.many
  go_enter Tryz.func20, Tryz.ntmps20
  go_wp2_with fail
  refine (rfree_any _ rb R h hn).mono ?_
  rintro e w1 ⟨rfl, ho1⟩
  generalize R.free = fr at *
  go_wp2_with fail
  go_ret2
  exact ⟨rfl, ho1⟩

def zc126 (i : Nat) : Value := if i < 2 then .int .i64 0 else if i % 2 = 0 then .pointer none else .bool false
theorem zc126_eq : Tryz.zeroCells80.toList = (List.range 130).map zc126 := by kernel_rfl
theorem zc126_size : Tryz.zeroCells80.size = 130 := by rw [← Array.length_toList, zc126_eq]; simp
theorem zc126_at {i : Nat} (h : i < 130) : Tryz.zeroCells80[i]? = some (zc126 i) := by
  rw [← Array.getElem?_toList, zc126_eq, List.getElem?_map, List.getElem?_range h]; rfl
def guestCells (zc : Array Value) (n : Int) : Array Value := (zc.setIfInBounds 0 (Value.int IntKind.i64 n)).setIfInBounds 1 (Value.int IntKind.i64 (-1))
theorem guestCells_at (n : Int) (gb : Nat) {i : Nat} (h : i < 130) : (guestCells Tryz.zeroCells80 n)[i]? = some ((newG n gb).cell i) := by
  simp only [guestCells, Array.getElem?_setIfInBounds]
  by_cases h1 : 1 = i
  · subst h1; simp [RG.cell, newG]
  · by_cases h0 : 0 = i
    · subst h0; simp [RG.cell, newG]
    · rw [if_neg h1, if_neg h0, zc126_at h, zc126, RG.cell, if_neg (show ¬ i < 2 by omega), if_neg (show ¬ i = 0 by omega), if_neg (show ¬ i = 1 by omega)]
      rfl

theorem owns_only {T : Nat → Prop} {w w' : World} {base : Nat} {e : TypeId} {s : Nat} {v : Value} {n : Nat} {xs : List Value} (h : w.ownsRow base e s v n xs) (o : Only T w w') (ht : ∀ b, v.ownBlock = some b → ¬ T b) : w'.ownsRow base e s v n xs := by
  refine ⟨h.1, ?_⟩
  rcases h.2 with q | ⟨g, cap, cur, hv, q1, q2, q3⟩
  · exact Or.inl q
  · refine Or.inr ⟨g, cap, cur, hv, q1, ?_, q3⟩
    have hg : v.ownBlock = some g := by rw [hv]; rfl
    rw [o.block g (h.lt g hg).2 (ht g hg)]
    exact q2

/-- The world ahead of the append. -/
def cw (zc : Array Value) (w1 : World) (rb last : Nat) : World :=
  (((w1.setCell ⟨rb, 2, none⟩ (.int .i64 (last + 1))).alloc (.cells (guestCells zc (last + 1)) 80)).alloc (.cells #[.pointer (some ⟨w1.heap.size, 0, none⟩)] 74)).drew

theorem cw_only (w1 : World) (rb last : Nat) : Only (One rb) w1 (cw Tryz.zeroCells80 w1 rb last) :=
  (((((Only.refl (One rb) w1).setOne 2 _).alloc _).alloc _).drew)
theorem cw_size (w1 : World) (rb last : Nat) : (cw Tryz.zeroCells80 w1 rb last).heap.size = w1.heap.size + 2 := by simp [cw]

theorem created_facts {w1 : World} {rb : Nat} {R : RS} (h : Refm w1 rb R) (hc : R.L.length < 4) {v' : Value} {w' : World}
    (o1 : w'.ownsRow 0 74 1 v' (R.L.length + 1) ((R.L.map fun g => pt g.gb) ++ [pt w1.heap.size])) (g1 : (cw Tryz.zeroCells80 w1 rb R.last).grownBy w' R.gv.ownBlock)
    (o2 : v'.ownBlock = R.gv.ownBlock ∨ v'.ownBlock = some (cw Tryz.zeroCells80 w1 rb R.last).heap.size) :
    w'.cell? ⟨rb, 1, none⟩ = some R.gv ∧ w'.frozen? ⟨rb, 1, none⟩ = false ∧ w'.cell? ⟨rb, 2, none⟩ = some (.int .i64 (R.last + 1)) ∧
    Refm (w'.setCell ⟨rb, 1, none⟩ v') rb (R.created v' w1.heap.size) ∧ Only (R.own rb) w1 (w'.setCell ⟨rb, 1, none⟩ v') := by
  have hlt := h.lt
  have hsz := cw_size w1 rb R.last
  have hco := cw_only w1 rb R.last
  have hgo : ∀ k, k < w1.heap.size + 2 → R.gv.ownBlock ≠ some k → w'.heap[k]? = (cw Tryz.zeroCells80 w1 rb R.last).heap[k]? := fun k hk hn => g1.block k (by omega) (fun e => hn e.symm)
  obtain ⟨t, r⟩ := h.row
  have r1 : (cw Tryz.zeroCells80 w1 rb R.last).rowIs rb t 4 (fun j => if j = 2 then .int .i64 (R.last + 1) else R.cell j) := ((r.set 2 _).alloc _).alloc _
  have r2 := r1.of_block (hgo rb (by omega) h.n1)
  have hn1 : v'.ownBlock ≠ some rb := by
    rcases o2 with e | e
    · rw [e]; exact h.n1
    · rw [e, hsz]; intro q; injection q with q; omega
  have hnew : ∀ b, v'.ownBlock = some b → R.gv.ownBlock = some b ∨ b = w1.heap.size + 2 := fun b hb => by
    rcases o2 with e | e
    · exact Or.inl (by rw [← e]; exact hb)
    · rw [e, hsz] at hb; injection hb with q; exact Or.inr q.symm
  refine ⟨by rw [r2.cell (by omega)]; rfl, r2.frozen 1, by rw [r2.cell (by omega)]; rfl, ?_, ?_⟩
  · have isG : ∀ b, (R.created v' w1.heap.size).isGs b → R.isGs b ∨ b = w1.heap.size := by
      rintro b ⟨g, hg, rfl⟩
      rcases List.mem_append.1 hg with q | q
      · exact Or.inl ⟨g, q, rfl⟩
      · rw [List.mem_singleton] at q; subst q; exact Or.inr rfl
    have isP : ∀ b, (R.created v' w1.heap.size).isPg b → R.isPg b := by
      rintro b ⟨g, hg, p, hp, e⟩
      rcases List.mem_append.1 hg with q | q
      · exact ⟨g, q, p, hp, e⟩
      · rw [List.mem_singleton] at q; subst q; cases e
    have old : ∀ {b : Nat} {t : TypeId} {n : Nat} {f : Nat → Value}, w1.rowIs b t n f → b ≠ rb → R.gv.ownBlock ≠ some b → (w'.setCell ⟨rb, 1, none⟩ v').rowIs b t n f := fun {b} _ _ _ r q1 q2 =>
      ((hco.row r (fun e => q1 e)).of_block (hgo b (by have := r.lt; omega) q2)).setOther q1 _
    refine ⟨⟨t, (r2.set 1 _).congr (fun j hj => ?_)⟩, ?_, fun g hg => ?_, fun b hb => ?_, hn1, fun q => ?_, fun q => h.n3 (isP _ q), fun b hb => ⟨fun q => ?_, fun q => ?_⟩, fun b hb q => ?_, ?_, ?_⟩
    · have e : j = 0 ∨ j = 1 ∨ j = 2 ∨ j = 3 := by omega
      rcases e with e | e | e | e <;> subst e <;> rfl
    · have := owns_only o1 ((Only.refl (One rb) w').setOne 1 v') (fun b hb e => hn1 (by rw [hb, show b = rb from e]))
      simpa [RS.created, newG] using this
    · rcases List.mem_append.1 hg with q | q
      · obtain ⟨t, r⟩ := h.gs g q
        exact ⟨t, old r (fun e => h.n2 ⟨g, q, e⟩) (fun e => (h.n4 _ e).1 ⟨g, q, rfl⟩)⟩
      · rw [List.mem_singleton] at q
        subst q
        have ra := World.rowIs_alloc (w1.setCell ⟨rb, 2, none⟩ (.int .i64 (R.last + 1))) (guestCells Tryz.zeroCells80 (R.last + 1)) 80 ((newG (R.last + 1) w1.heap.size).cell) (fun i hi => by
          have hi : i < 130 := by simpa [guestCells, zc126_size] using hi
          exact guestCells_at _ _ hi)
        rw [World.size_setCell, show (guestCells Tryz.zeroCells80 (R.last + 1)).size = 130 by simp [guestCells]] at ra
        have rb2 : (cw Tryz.zeroCells80 w1 rb R.last).rowIs w1.heap.size 80 130 ((newG (R.last + 1) w1.heap.size).cell) := ra.alloc _
        refine ⟨80, (rb2.of_block (hgo w1.heap.size (by omega) (fun e => ?_))).setOther (show w1.heap.size ≠ rb by omega) _⟩
        have := (h.sl.lt _ e).2
        omega
    · have hb := isP b hb
      obtain ⟨t, r⟩ := h.ps b hb
      exact ⟨t, old r (fun e => h.n3 (by rw [← e]; exact hb)) (fun e => (h.n4 _ e).2 hb)⟩
    · rcases isG _ q with q | q
      · exact h.n2 q
      · omega
    · rcases hnew b hb with e | e <;> rcases isG _ q with q | q
      · exact (h.n4 b e).1 q
      · have := (h.sl.lt b e).2; omega
      · have := isGs_lt h q; omega
      · omega
    · have q := isP _ q
      rcases hnew b hb with e | e
      · exact (h.n4 b e).2 q
      · have := isPg_lt h q; omega
    · have q := isP _ q
      rcases isG _ hb with e | e
      · exact h.n5 b e q
      · have := isPg_lt h q; omega
    · show ((R.L ++ [newG (R.last + 1) w1.heap.size]).map fun g => g.gb).Nodup
      rw [List.map_append, List.nodup_append]
      refine ⟨h.nd, by simp, fun a ha b hb e => ?_⟩
      rw [List.mem_map] at ha
      obtain ⟨g, hg, rfl⟩ := ha
      have := isGs_lt h ⟨g, hg, rfl⟩
      simp [newG] at hb
      omega
    · show (R.L ++ [_]).length ≤ 4
      simp; omega
  · have q1 : Only (R.own rb) w1 (cw Tryz.zeroCells80 w1 rb R.last) := hco.mono (fun k _ e => Or.inl e)
    have q2 : Only (fun b => R.gv.ownBlock = some b) (cw Tryz.zeroCells80 w1 rb R.last) w' := ⟨g1.os, g1.tape, g1.output, g1.size, fun k hk hn => g1.block k hk (fun e => hn e.symm)⟩
    exact (q1.after q2 (fun b _ e => Or.inr (Or.inl e))).setCell (p := ⟨rb, 1, none⟩) (fun _ => Or.inl rfl) _

theorem created_own {R : RS} {rb : Nat} {v : Value} {gb n : Nat} (hv : v.ownBlock = R.gv.ownBlock ∨ ∃ k, v.ownBlock = some k ∧ n ≤ k) (hg : n ≤ gb) (b : Nat) (h : (R.created v gb).own rb b) : R.own rb b ∨ n ≤ b := by
  rcases h with h | h | ⟨g, q, rfl⟩ | ⟨g, q, p, hp, e⟩
  · exact Or.inl (Or.inl h)
  · rcases hv with e | ⟨k, e, hk⟩
    · exact Or.inl (Or.inr (Or.inl (by rw [← e]; exact h)))
    · have h : v.ownBlock = some b := h
      rw [e] at h; injection h with h; exact Or.inr (by omega)
  · rcases List.mem_append.1 q with q | q
    · exact Or.inl (Or.inr (Or.inr (Or.inl ⟨g, q, rfl⟩)))
    · rw [List.mem_singleton] at q; subst q; exact Or.inr hg
  · rcases List.mem_append.1 q with q | q
    · exact Or.inl (Or.inr (Or.inr (Or.inr ⟨g, q, p, hp, e⟩)))
    · rw [List.mem_singleton] at q; subst q; cases e

theorem owns_pos {w : World} {base : Nat} {e : TypeId} {s : Nat} {v : Value} {n : Nat} {xs : List Value} (h : w.ownsRow base e s v (n + 1) xs) : ∃ sb cp, v = .slice (some ⟨sb, 0, none⟩) (n + 1) cp := by
  rcases h.2 with ⟨_, q⟩ | ⟨g, cap, cur, hv, _⟩
  · omega
  · exact ⟨g, cap, hv⟩

set_option maxRecDepth 100000 in
set_option maxHeartbeats 4000000 in
theorem rcreateGood_any (w : World) (rb : Nat) (R : RS) (h : Refm w rb R) (hn : R.n ≤ 64) (hl : R.last < 1000000000000000000) (hc : R.L.length < 4) (hf : ¬ R.free < 1) :
    Calls Tryz.prog 20 #[pt rb] w fun e w' => ∃ v gb, e = .returned (.tuple #[.int .i64 (R.last + 1), .int .i64 0]) ∧ w.heap.size ≤ gb ∧ Refm w' rb (R.created v gb) ∧ Only (R.own rb) w w' ∧ (∀ b, (R.created v gb).own rb b → R.own rb b ∨ w.heap.size ≤ b) := by
  obtain ⟨i0, hi, hzz⟩ := Option.map_eq_some_iff.1 ptr_info
  simp only [Prod.mk.injEq] at hzz
  obtain ⟨hz0, hz1, hz2⟩ := hzz
  have HI := hid (And.intro hi (And.intro hz0 (And.intro hz1 hz2)))
  clear hi hz0 hz1 hz2
  have hfb := R.free_bd hn h.many
  obtain ⟨sa, cap, hgv⟩ := gv_shape h
  have c1 := h.c1
  rw [hgv] at c1
  have HG := hid hgv
  clear hgv
  go_enter Tryz.func20, Tryz.ntmps20
  go_wp2_with fail
  refine (rfree_any _ rb R h hn).mono ?_
  rintro e w1 ⟨rfl, ho1⟩
  have hR1 := h.nob ho1
  have d1 := hR1.c1
  rw [HG.out] at d1
  have d2 := hR1.c2
  have f2 := hR1.fz 2
  have f1 := hR1.fz 1
  have hrlt := hR1.lt
  have OW : Hid ((cw Tryz.zeroCells80 w1 rb R.last).ownsRow 0 74 1 (.slice sa R.L.length cap) R.L.length (R.L.map fun g => pt g.gb)) := by
    have := owns_only hR1.sl (cw_only w1 rb R.last) (fun b hb e => hR1.n1 (by rw [hb, show b = rb from e]))
    rw [HG.out] at this
    exact this
  have HN : Hid (∀ (j : Nat) (u : Value), [pt w1.heap.size][j]? = some u → (cw Tryz.zeroCells80 w1 rb R.last).cell? ((⟨w1.heap.size + 1, 0, none⟩ : Addr).add j) = some u) := by
    intro j u hj
    rcases j with _ | j
    · simp at hj
      subst hj
      have q := Only.laidD (w := (w1.setCell ⟨rb, 2, none⟩ (.int .i64 (R.last + 1))).alloc (.cells (guestCells Tryz.zeroCells80 (R.last + 1)) 80)) (c := #[.pointer (some ⟨w1.heap.size, 0, none⟩)]) (t := 74) (Only.refl Nob _) (fun q => q) 0
      rw [show ((w1.setCell ⟨rb, 2, none⟩ (.int .i64 (R.last + 1))).alloc (.cells (guestCells Tryz.zeroCells80 (R.last + 1)) 80)).heap.size = w1.heap.size + 1 by simp] at q
      exact q
    · simp at hj
  have H1 : Hid (∀ u ∈ [pt w1.heap.size], u.oneCell' = true) := by
    intro u hu
    rw [List.mem_singleton] at hu
    subst hu
    rfl
  generalize R.free = fr at *
  go_wp2_with fail
  go_region_law  (refine step_append_own (w := cw Tryz.zeroCells80 w1 rb R.last) rfl (.tmp 26) (.tmp 33) 70 rfl 0 74 i0 (.pointer none) 1 8 Tryz.underlying70 HI.out.1 HI.out.2.1 HI.out.2.2.1 HI.out.2.2.2 rfl (by omega) (.slice sa R.L.length cap) R.L.length (R.L.map fun g => pt g.gb) rfl OW.out ⟨w1.heap.size + 1, 0, none⟩ 1 1 [pt w1.heap.size] rfl rfl HN.out H1.out (by simp only [maxLen]; omega) (by omega) (by omega) ?_
                  intro v' w' o1 g1 o2
                  obtain ⟨sb, cp, rfl⟩ := owns_pos o1
                  rw [← HG.out] at g1 o2
                  obtain ⟨x1, x2, x3, x4, x5⟩ := created_facts hR1 hc o1 g1 o2
                  rw [HG.out] at x1
                  have X4 := hid x4
                  have X5 := hid x5
                  have G1 := hid g1
                  have O2 := hid o2
                  clear x4 x5 o1 g1 o2)
  all_goals
    go_wp2
    go_ret2
    refine ⟨_, w1.heap.size, rfl, ho1.size, X4.out, (ho1.of_nob (S := R.own rb)).trans X5.out, created_own ?_ ho1.size⟩
    rcases O2.out with e | e
    · exact Or.inl e
    · refine Or.inr ⟨_, e, ?_⟩
      rw [cw_size]
      have := ho1.size
      omega
end Go.Proofs.YtfcepnhknmbaaaaGreat

/- The contract of the document's Destroy. -/
namespace Go.Proofs.YtfcepnhknmbaaaaGreat
open Go.RowKit Go.Deep

def ptrs (L : List RG) : List Value := L.map fun g => pt g.gb
def keepL (L : List RG) (n : Int) : List RG := L.filter fun g => g.N != n
theorem keepL_take {L : List RG} {n : Int} {i : Nat} (h : i < L.length) : keepL (L.take (i + 1)) n = if L[i].N = n then keepL (L.take i) n else keepL (L.take i) n ++ [L[i]] := by
  rw [List.take_succ_eq_append_getElem h]
  simp only [keepL, List.filter_append]
  by_cases e : L[i].N = n <;> simp [e]
theorem keepL_len (L : List RG) (n : Int) : (keepL L n).length ≤ L.length := List.length_filter_le _ _
def RS.dropped (R : RS) (v : Value) (n : Int) : RS := { R with gv := v, L := keepL R.L n }
def RS.destroyCode (R : RS) (n : Int) : Int := match findFrom R.L n with | none => 4 | some _ => 0

theorem dropped_isGs {R : RS} {v : Value} {n : Int} {b : Nat} (h : (R.dropped v n).isGs b) : R.isGs b := by
  obtain ⟨g, hg, e⟩ := h
  exact ⟨g, (List.mem_filter.1 hg).1, e⟩
theorem dropped_isPg {R : RS} {v : Value} {n : Int} {b : Nat} (h : (R.dropped v n).isPg b) : R.isPg b := by
  obtain ⟨g, hg, e⟩ := h
  exact ⟨g, (List.mem_filter.1 hg).1, e⟩

theorem owns_zero {w : World} {base : Nat} {e : TypeId} {s : Nat} {v : Value} {n : Nat} {xs : List Value} (h : w.ownsRow base e s v n xs) : w.ownsRow 0 e s v n xs := by
  refine ⟨h.1, ?_⟩
  rcases h.2 with q | ⟨g, cap, cur, hv, q1, q2, q3⟩
  · exact Or.inl q
  · exact Or.inr ⟨g, cap, cur, hv, Nat.zero_le _, q2, q3⟩

theorem Refm.dropped {w w1 : World} {rb : Nat} {R : RS} (h : Refm w rb R) (ho : Only Nob w w1) {v : Value} {n : Int} (o : w1.ownsRow w.heap.size 74 1 v (keepL R.L n).length (ptrs (keepL R.L n))) : Refm (w1.setCell ⟨rb, 1, none⟩ v) rb (R.dropped v n) ∧ (∀ b, (R.dropped v n).own rb b → R.own rb b ∨ w.heap.size ≤ b) := by
  have hnew : ∀ b, v.ownBlock = some b → w.heap.size ≤ b := fun b hb => (o.lt b hb).1
  have hlt := h.lt
  have h1 := h.nob ho
  obtain ⟨t, r⟩ := h1.row
  refine ⟨⟨⟨t, (r.set 1 _).congr (fun j hj => ?_)⟩, ?_, fun g hg => ?_, fun b hb => ?_, fun e => ?_, fun q => h.n2 (dropped_isGs q), fun q => h.n3 (dropped_isPg q), fun b hb => ⟨fun q => ?_, fun q => ?_⟩, fun b hb q => h.n5 b (dropped_isGs hb) (dropped_isPg q), ?_, ?_⟩, fun b hb => ?_⟩
  · have e : j = 0 ∨ j = 1 ∨ j = 2 ∨ j = 3 := by omega
    rcases e with e | e | e | e <;> subst e <;> rfl
  · exact owns_only (owns_zero o) ((Only.refl (One rb) w1).setOne 1 v) (fun b hb e => by have := hnew b hb; have : b = rb := e; omega)
  · have hg := (List.mem_filter.1 hg).1
    obtain ⟨t, r⟩ := h1.gs g hg
    exact ⟨t, r.setOther (fun e => h.n2 ⟨g, hg, e⟩) _⟩
  · have hb := dropped_isPg hb
    obtain ⟨t, r⟩ := h1.ps b hb
    exact ⟨t, r.setOther (fun e => h.n3 (by rw [← show b = rb from e]; exact hb)) _⟩
  · have := hnew rb e; omega
  · have := hnew b hb; have := isGs_lt h (dropped_isGs q); omega
  · have := hnew b hb; have := isPg_lt h (dropped_isPg q); omega
  · exact h.nd.sublist (List.filter_sublist.map _)
  · exact Nat.le_trans (keepL_len _ _) h.many
  · rcases hb with hb | hb | hb | hb
    · exact Or.inl (Or.inl hb)
    · exact Or.inr (hnew b hb)
    · exact Or.inl (Or.inr (Or.inr (Or.inl (dropped_isGs hb))))
    · exact Or.inl (Or.inr (Or.inr (Or.inr (dropped_isPg hb))))

theorem rdestroyBad_any (w : World) (rb : Nat) (R : RS) (h : Refm w rb R) (n : Int) (hf : findFrom R.L n = none) :
    Calls Tryz.prog 22 #[pt rb, .int .i64 n] w fun e w' => e = .returned (.int .i64 4) ∧ w = w' := by
  have HF := hid hf
  clear hf
  go_enter Tryz.func22, Tryz.ntmps22
  go_wp2_with fail
  refine (rguest_any _ rb R h n).mono ?_
  rintro e w1 ⟨rfl, rfl⟩
  rw [HF.out]
  simp only [Option.map_none, ptO_none]
  go_wp2
  go_ret
  exact ⟨rfl, rfl⟩

set_option maxRecDepth 100000 in
set_option maxHeartbeats 4000000 in
theorem rdestroyGood_any (w : World) (rb : Nat) (R : RS) (h : Refm w rb R) (n : Int) (g0 : RG) (hf : findFrom R.L n = some g0) :
    Calls Tryz.prog 22 #[pt rb, .int .i64 n] w fun e w' => ∃ v, e = .returned (.int .i64 0) ∧ Refm w' rb (R.dropped v n) ∧ Only (R.own rb) w w' ∧ (∀ b, (R.dropped v n).own rb b → R.own rb b ∨ w.heap.size ≤ b) := by
  obtain ⟨i0, hi, hzz⟩ := Option.map_eq_some_iff.1 ptr_info
  simp only [Prod.mk.injEq] at hzz
  obtain ⟨hz0, hz1, hz2⟩ := hzz
  have HI := hid (And.intro hi (And.intro hz0 (And.intro hz1 hz2)))
  clear hi hz0 hz1 hz2
  have hm := h.many
  have HF := hid hf
  obtain ⟨hg0, _⟩ := findFrom_mem hf
  have hpos : 0 < R.L.length := List.length_pos_of_mem hg0
  obtain ⟨sb, cap, hgv, hcell⟩ := h.slice hpos
  have HCELL := hid hcell
  have c1 := h.c1
  rw [hgv] at c1
  have f1 := h.fz 1
  clear hf hcell hgv
  go_enter Tryz.func22, Tryz.ntmps22
  go_wp2_with fail
  refine (rguest_any _ rb R h n).mono ?_
  rintro e w1 ⟨rfl, rfl⟩
  rw [HF.out]
  simp only [Option.map_some, ptO_some]
  go_wp2
  go_loopw [6, 7] (fun s6 s7 wr => ∃ i : Nat, i ≤ R.L.length ∧ s7 = .int .i64 i ∧ wr.ownsRow w.heap.size 74 1 s6 (keepL (R.L.take i) n).length (ptrs (keepL (R.L.take i) n)) ∧ Only Nob w wr) (fun _ s7 _ => R.L.length - (intOf s7).toNat)
  case atStart => exact ⟨0, by omega, rfl, World.ownsRow_nil _ _ _ _, Only.refl _ _⟩
  case round =>
    rename World => wk
    obtain ⟨i, hi, rfl, hown, hO⟩ := hrel
    have hwc := hO.keep (p := ⟨rb, 1, none⟩) (fun q => q) c1
    have hwf : wk.frozen? ⟨rb, 1, none⟩ = false := by rw [hO.frozen (p := ⟨rb, 1, none⟩) h.lt (fun q => q)]; exact f1
    have hlen := keepL_len (R.L.take i) n
    rw [List.length_take_of_le hi] at hlen
    obtain ⟨sa, scap, hsh⟩ : ∃ sa scap, u6 = Value.slice sa (keepL (R.L.take i) n).length scap := by
      rcases hown.2 with ⟨q, e⟩ | ⟨g, cap, cur, hv, _⟩
      · exact ⟨none, 0, by rw [q, e]⟩
      · exact ⟨_, cap, hv⟩
    subst hsh
    by_cases hlt : i < R.L.length
    · have hcg := hO.keep (p := ⟨sb, i, none⟩) (fun q => q) (HCELL.out i _ (List.getElem?_eq_getElem hlt))
      have hgm : R.L[i] ∈ R.L := List.getElem_mem hlt
      have hN := hO.keep (fun q => q) (h.gN hgm)
      have HK := hid (keepL_take (n := n) hlt)
      have HOWN := hid hown
      clear hown hgm
      generalize keepL (R.L.take i) n = kl at *
      generalize R.L[i] = g at *
      by_cases hgn : g.N = n
      · have HK2 : Hid (keepL (R.L.take (i + 1)) n = kl) := by have := HK.out; rw [if_pos hgn] at this; exact this
        clear HK
        go_wp2
        go_roundw
        case rel => exact ⟨i + 1, by omega, by go_num, by rw [HK2.out]; exact HOWN.out, hO⟩
        case measure => simp [intOf]; omega
      · have HK2 : Hid (keepL (R.L.take (i + 1)) n = kl ++ [g]) := by have := HK.out; rw [if_neg hgn] at this; exact this
        clear HK
        have hlt4 := hO.size
        have HB : Hid (kl.length + 1 ≤ maxLen) := by unfold Hid maxLen; omega
        have HB2 : Hid ((kl.length + 1) * 8 ≤ 140737488355328) := by unfold Hid; omega
        go_wp2_with (at_builtin; refine wpList_append_own_at _ rfl _ _ 70 rfl w.heap.size 74 i0 (.pointer none) 1 8 Tryz.underlying70 HI.out.1 HI.out.2.1 HI.out.2.2.1 HI.out.2.2.2 rfl (by decide) _ _ _ rfl (HOWN.out.alloc _) ⟨wk.heap.size, 0, none⟩ 1 1 [pt g.gb] rfl rfl (cell_one_new _ _ _) (fun u hu => by simp at hu; subst hu; rfl) HB.out HB2.out (by simp; omega) ?_; intro v' w1 hown' hgrow hnil hloc)
        have hO1 : Only Nob w w1 := Only.of_grown (hO.alloc _) hgrow (fun q hq => (HOWN.out.lt q hq).1)
        have HOWN3 : Hid (w1.ownsRow w.heap.size 74 1 v' (keepL (R.L.take (i + 1)) n).length (ptrs (keepL (R.L.take (i + 1)) n))) := by
          rw [HK2.out, Hid, List.length_append, List.length_singleton]
          simp only [ptrs, List.map_append, List.map_cons, List.map_nil]
          exact hown'
        clear hown' hnil hloc hgrow
        go_wp2
        go_roundw
        case rel => exact ⟨i + 1, by omega, by go_num, HOWN3.out, hO1⟩
        case measure => simp [intOf]; omega
    · have ei : i = R.L.length := by omega
      rw [ei, List.take_length] at hown
      obtain ⟨x1, x2⟩ := h.dropped hO hown
      rw [show (keepL (R.L.take i) n) = keepL R.L n by rw [ei, List.take_length]]
      have X1 := hid x1
      have X2 := hid x2
      clear ei hown x1 x2
      go_wp2
      go_ret
      exact ⟨_, rfl, X1.out, (hO.of_nob (S := R.own rb)).setCell (p := ⟨rb, 1, none⟩) (fun _ => Or.inl rfl) _, X2.out⟩
end Go.Proofs.YtfcepnhknmbaaaaGreat
