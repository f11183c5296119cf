/- The contract of the document's Map. -/
import Derived.Test.YtelilndinnemcaaRefTopB
namespace Go.Proofs.Ytelilndinnemcaa
open Go.RowKit Go.Deep

def RS.mapCode (R : RS) (n p : Int) : Int :=
  match findFrom R.L n with
  | none => 4
  | some g => if p < 0 ∨ 64 ≤ p then 5 else match g.P p.toNat with
    | some _ => 6
    | none => if R.free < 1 + g.takes (p.toNat / 8) then 3 else 0

/-- A page more, of block pb. -/
def RS.paged (R : RS) (pb : Nat) : RS := { R with made := R.made + 1, Id := fun b => if b = pb then R.made + 1 else R.Id b, Wd := fun b k => if b = pb then 0 else R.Wd b k }

theorem isPg_lt {w : World} {rb : Nat} {R : RS} (h : Refm w rb R) {b : Nat} (hb : R.isPg b) : b < w.heap.size := h.own_lt (Or.inr (Or.inr (Or.inr hb)))
theorem isGs_lt {w : World} {rb : Nat} {R : RS} (h : Refm w rb R) {b : Nat} (hb : R.isGs b) : b < w.heap.size := h.own_lt (Or.inr (Or.inr (Or.inl hb)))

/-- The number of pages has grown, and a block of a page lies. -/
theorem Refm.paged {w : World} {rb : Nat} {R : RS} (h : Refm w rb R) :
    Refm ((w.setCell ⟨rb, 3, none⟩ (.int .i64 (R.made + 1))).alloc (.cells #[.int .i64 (R.made + 1), .int .i64 0, .int .i64 0, .int .i64 0, .int .i64 0, .int .i64 0, .int .i64 0, .int .i64 0, .int .i64 0] 137)) rb (R.paged w.heap.size) ∧
    ((w.setCell ⟨rb, 3, none⟩ (.int .i64 (R.made + 1))).alloc (.cells #[.int .i64 (R.made + 1), .int .i64 0, .int .i64 0, .int .i64 0, .int .i64 0, .int .i64 0, .int .i64 0, .int .i64 0, .int .i64 0] 137)).rowIs w.heap.size 137 9 ((R.paged w.heap.size).pgCell w.heap.size) := by
  have hlt := h.lt
  constructor
  · obtain ⟨t, r⟩ := h.row
    refine ⟨⟨t, ((r.set 3 _).congr (fun j hj => ?_)).alloc _⟩, ⟨h.sl.1, ?_⟩, fun g hg => ?_, fun b hb => ?_, h.n1, h.n2, h.n3, h.n4, h.n5, h.nd, h.many⟩
    · have e : j = 0 ∨ j = 1 ∨ j = 2 ∨ j = 3 := by omega
      rcases e with e | e | e | e <;> subst e <;> rfl
    · rcases h.sl.2 with q | ⟨g, cap, cur, hv, q1, q2, q3⟩
      · exact Or.inl q
      · refine Or.inr ⟨g, cap, cur, hv, q1, ?_, q3⟩
        have hg : R.gv.ownBlock = some g := by rw [hv]; rfl
        rw [Below.heap_alloc _ _ _ (by rw [World.size_setCell]; exact (h.sl.lt g hg).2), Below.heap_setCell _ _ _ _ (fun e => h.n1 (by rw [hg]; exact congrArg some e))]
        exact q2
    · obtain ⟨t, r⟩ := h.gs g hg
      exact ⟨t, (r.setOther (fun e => h.n2 ⟨g, hg, e⟩) _).alloc _⟩
    · have hb : R.isPg b := hb
      obtain ⟨t, r⟩ := h.ps b hb
      have hblt := isPg_lt h hb
      refine ⟨t, ((r.setOther (fun e => h.n3 (by rw [← show b = rb from e]; exact hb)) _).alloc _).congr (fun j _ => ?_)⟩
      simp only [RS.pgCell, RS.paged]
      rw [if_neg (show ¬ b = w.heap.size by omega), if_neg (show ¬ b = w.heap.size by omega)]
  · have r := World.rowIs_alloc (w.setCell ⟨rb, 3, none⟩ (.int .i64 (R.made + 1))) #[.int .i64 (R.made + 1), .int .i64 0, .int .i64 0, .int .i64 0, .int .i64 0, .int .i64 0, .int .i64 0, .int .i64 0, .int .i64 0] 137 ((R.paged w.heap.size).pgCell w.heap.size) (fun i hi => by
      have hi : i < 9 := hi
      simp only [RS.pgCell, RS.paged, if_true]
      have e : i = 0 ∨ i = 1 ∨ i = 2 ∨ i = 3 ∨ i = 4 ∨ i = 5 ∨ i = 6 ∨ i = 7 ∨ i = 8 := by omega
      rcases e with e | e | e | e | e | e | e | e | e <;> subst e <;> rfl)
    rw [World.size_setCell] at r
    exact r

theorem Refm.came {w : World} {rb : Nat} {R : RS} (h : Refm w rb R) {g : RG} (hg : g ∈ R.L) (p : Nat) (b : Bool) :
    Refm ((((w.setCell ⟨rb, 3, none⟩ (.int .i64 (R.made + 1))).setCell ⟨g.gb, 2 + p * 2, none⟩ (pt w.heap.size)).setCell ⟨g.gb, 2 + p * 2 + 1, none⟩ (.bool b)).alloc (.cells #[.int .i64 (R.made + 1), .int .i64 0, .int .i64 0, .int .i64 0, .int .i64 0, .int .i64 0, .int .i64 0, .int .i64 0, .int .i64 0] 137)).drew rb ((R.paged w.heap.size).set g.gb p (some w.heap.size) b) := by
  obtain ⟨h1, h2⟩ := h.paged
  have hglt := isGs_lt h ⟨g, hg, rfl⟩
  have hrlt := h.lt
  have h3 := h1.set (g := g) hg (p := p) (o := some w.heap.size) (b := b) (fun x q => by
    injection q with q
    subst q
    refine ⟨⟨137, h2⟩, by omega, fun e => ?_, fun q => ?_⟩
    · have := (h.sl.lt _ e).2
      omega
    · have := isGs_lt h q
      omega)
  rw [World.setCell_alloc_past _ _ _ _ (by rw [World.size_setCell]; exact hglt), World.setCell_alloc_past _ _ _ _ (by rw [World.size_setCell, World.size_setCell]; exact hglt)] at h3
  exact h3.nob (Only.refl Nob _).drew

theorem takes_le (g : RG) (k : Nat) : g.takes k ≤ 1 := by simp only [RG.takes]; split <;> omega

theorem RS.free_bd (R : RS) (hn : R.n ≤ 64) (hm : R.L.length ≤ 4) : -1000 ≤ R.free ∧ R.free ≤ 64 := by
  have h1 := tabsL_le R.L
  have h2 := seenL_len R.Id R.L R.L.length (Nat.le_refl _)
  rw [List.take_length] at h2
  simp only [RS.free]
  omega

set_option maxRecDepth 100000 in
set_option maxHeartbeats 2000000 in
theorem rmapGood_any (w : World) (rb : Nat) (R : RS) (h : Refm w rb R) (hn : R.n ≤ 64) (hmd : R.made < 1000000000000000000) (n p : Int) (b : Bool) (g : RG) (hf : findFrom R.L n = some g) (h0 : 0 ≤ p) (h1 : p < 64) (hx : g.P p.toNat = none) (hfr : ¬ R.free < 1 + g.takes (p.toNat / 8)) :
    Calls Try.prog 74 #[pt rb, .int .i64 n, .int .i64 p, .bool b] w fun e w' => ∃ pb, e = .returned (.int .i64 0) ∧ w.heap.size ≤ pb ∧ Refm w' rb ((R.paged pb).set g.gb p.toNat (some pb) b) ∧ Only (R.own rb) w w' := by
  obtain ⟨hg, _⟩ := findFrom_mem hf
  have hfb := R.free_bd hn h.many
  have htl := takes_le g (p.toNat / 8)
  have hcp := (h.gpage hg (p := p.toNat) (by omega)).1
  rw [hx, ptO_none] at hcp
  have HF := hid hf
  clear hf hx
  go_enter Try.func74, Try.ntmps74
  go_wp2_with fail
  refine (rguest_any _ rb R h n).mono ?_
  rintro e w1 ⟨rfl, rfl⟩
  rw [HF.out]
  simp only [Option.map_some, ptO_some]
  go_wp2_with fail
  refine (rfree_any _ rb R h hn).mono ?_
  rintro e w1 ⟨rfl, ho1⟩
  have hR1 := h.nob ho1
  go_wp2_with fail
  refine (rtakes_any _ rb R hR1 g hg p h0 h1).mono ?_
  rintro e w2 ⟨rfl, rfl⟩
  have c3 := hR1.c3
  have f3 := hR1.fz 3
  obtain ⟨hcp2, hcw2⟩ := hR1.gpage hg (p := p.toNat) (by omega)
  obtain ⟨t, r⟩ := hR1.gs g hg
  have fz1 := r.frozen (2 + p.toNat * 2)
  have fz2 := r.frozen (2 + p.toNat * 2 + 1)
  have hglt := r.lt
  have hrlt := hR1.lt
  have hne : g.gb ≠ rb := fun e => h.n2 ⟨g, hg, e⟩
  clear r
  generalize R.free = fr at *
  generalize g.takes (p.toNat / 8) = tk at *
  go_wp2_with fail
  go_region
  go_wp2
  go_ret
  refine ⟨w1.heap.size, rfl, ho1.size, hR1.came hg p.toNat b, ?_⟩
  have hr : R.own rb rb := Or.inl rfl
  have hgs : R.own rb g.gb := Or.inr (Or.inr (Or.inl ⟨g, hg, rfl⟩))
  exact (((((ho1.of_nob (S := R.own rb)).setCell (p := ⟨rb, 3, none⟩) (fun _ => hr) _).setCell (p := ⟨g.gb, _, none⟩) (fun _ => hgs) _).setCell (p := ⟨g.gb, _, none⟩) (fun _ => hgs) _).alloc _).drew

set_option maxRecDepth 100000 in
set_option maxHeartbeats 2000000 in
theorem rmapBad_any (w : World) (rb : Nat) (R : RS) (h : Refm w rb R) (hn : R.n ≤ 64) (n p : Int) (b : Bool) (hc : R.mapCode n p ≠ 0) :
    Calls Try.prog 74 #[pt rb, .int .i64 n, .int .i64 p, .bool b] w fun e w' => e = .returned (.int .i64 (R.mapCode n p)) ∧ Only Nob w w' := by
  cases hf : findFrom R.L n with
  | none =>
    have HR : Hid (R.mapCode n p = 4) := by simp only [Hid, RS.mapCode, hf]
    have HF := hid hf
    clear hf hc
    go_enter Try.func74, Try.ntmps74
    go_wp2_with fail
    refine (rguest_any _ rb R h n).mono ?_
    rintro e w1 ⟨rfl, rfl⟩
    rw [HF.out]
    simp only [Option.map_none, ptO_none]
    go_wp2
    go_ret
    exact ⟨by rw [HR.out]; rfl, Only.refl _ _⟩
  | some g =>
    obtain ⟨hg, _⟩ := findFrom_mem hf
    by_cases ha : p < 0 ∨ 64 ≤ p
    · have HR : Hid (R.mapCode n p = 5) := by simp only [Hid, RS.mapCode, hf, ha, if_true]
      have HF := hid hf
      clear hf hc
      rcases ha with ha | ha
      · go_enter Try.func74, Try.ntmps74
        go_wp2_with fail
        refine (rguest_any _ rb R h n).mono ?_
        rintro e w1 ⟨rfl, rfl⟩
        rw [HF.out]
        simp only [Option.map_some, ptO_some]
        go_wp2
        go_ret
        exact ⟨by rw [HR.out]; rfl, Only.refl _ _⟩
      · have ha2 : ¬ p < 0 := by omega
        go_enter Try.func74, Try.ntmps74
        go_wp2_with fail
        refine (rguest_any _ rb R h n).mono ?_
        rintro e w1 ⟨rfl, rfl⟩
        rw [HF.out]
        simp only [Option.map_some, ptO_some]
        go_wp2
        go_ret
        exact ⟨by rw [HR.out]; rfl, Only.refl _ _⟩
    · have h0 : 0 ≤ p := by omega
      have h1 : p < 64 := by omega
      have hcp := (h.gpage hg (p := p.toNat) (by omega)).1
      cases hx : g.P p.toNat with
      | some pb =>
        rw [hx, ptO_some] at hcp
        have HR : Hid (R.mapCode n p = 6) := by simp only [Hid, RS.mapCode, hf, ha, if_false, hx]
        have HF := hid hf
        clear hf ha hx hc
        go_enter Try.func74, Try.ntmps74
        go_wp2_with fail
        refine (rguest_any _ rb R h n).mono ?_
        rintro e w1 ⟨rfl, rfl⟩
        rw [HF.out]
        simp only [Option.map_some, ptO_some]
        go_wp2_with fail
        go_ret
        exact ⟨by rw [HR.out]; rfl, Only.refl _ _⟩
      | none =>
        rw [hx, ptO_none] at hcp
        have hfr : R.free < 1 + g.takes (p.toNat / 8) := by
          apply Classical.byContradiction
          intro q
          apply hc
          simp only [RS.mapCode, hf, ha, if_false, hx, q]
        have HR : Hid (R.mapCode n p = 3) := by simp only [Hid, RS.mapCode, hf, ha, if_false, hx, hfr, if_true]
        have HF := hid hf
        have hfb := R.free_bd hn h.many
        have htl := takes_le g (p.toNat / 8)
        clear hf ha hx hc
        go_enter Try.func74, Try.ntmps74
        go_wp2_with fail
        refine (rguest_any _ rb R h n).mono ?_
        rintro e w1 ⟨rfl, rfl⟩
        rw [HF.out]
        simp only [Option.map_some, ptO_some]
        go_wp2_with fail
        refine (rfree_any _ rb R h hn).mono ?_
        rintro e w1 ⟨rfl, ho1⟩
        have hR1 := h.nob ho1
        go_wp2_with fail
        refine (rtakes_any _ rb R hR1 g hg p h0 h1).mono ?_
        rintro e w2 ⟨rfl, rfl⟩
        generalize R.free = fr at *
        generalize g.takes (p.toNat / 8) = tk at *
        go_wp2_with fail
        go_ret
        exact ⟨by rw [HR.out]; rfl, ho1⟩
end Go.Proofs.Ytelilndinnemcaa
