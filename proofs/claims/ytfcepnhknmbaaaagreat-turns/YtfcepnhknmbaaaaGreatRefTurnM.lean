/- The contracts of the document's Root and Share. -/
import Derived.Test.YtfcepnhknmbaaaaGreatRefTopM
import Derived.Test.YtfcepnhknmbaaaaGreatMachM
import Derived.Test.YtfcepnhknmbaaaaGreatTurnBase
namespace Go.Proofs.YtfcepnhknmbaaaaGreat
open Go.RowKit Go.Deep

def rootAt (gb : Nat) (r : Int) (g : RG) : RG := if g.gb = gb then { g with root := r } else g
def RS.rooted (R : RS) (gb : Nat) (r : Int) : RS := { R with L := R.L.map (rootAt gb r) }
theorem rootAt_gb (gb : Nat) (r : Int) (g : RG) : (rootAt gb r g).gb = g.gb := by simp only [rootAt]; split <;> rfl
theorem rootAt_P (gb : Nat) (r : Int) (g : RG) : (rootAt gb r g).P = g.P := by simp only [rootAt]; split <;> rfl
theorem rootAt_N (gb : Nat) (r : Int) (g : RG) : (rootAt gb r g).N = g.N := by simp only [rootAt]; split <;> rfl
theorem rooted_isGs {R : RS} {gb : Nat} {r : Int} {x : Nat} : (R.rooted gb r).isGs x ↔ R.isGs x := by
  constructor
  · rintro ⟨g, hg, rfl⟩
    obtain ⟨g0, h0, rfl⟩ := List.mem_map.1 hg
    exact ⟨g0, h0, (rootAt_gb gb r g0).symm⟩
  · rintro ⟨g, hg, rfl⟩
    exact ⟨_, List.mem_map.2 ⟨g, hg, rfl⟩, rootAt_gb gb r g⟩
theorem rooted_isPg {R : RS} {gb : Nat} {r : Int} {x : Nat} : (R.rooted gb r).isPg x ↔ R.isPg x := by
  constructor
  · rintro ⟨g, hg, p, hp, e⟩
    obtain ⟨g0, h0, rfl⟩ := List.mem_map.1 hg
    rw [rootAt_P] at e
    exact ⟨g0, h0, p, hp, e⟩
  · rintro ⟨g, hg, p, hp, e⟩
    exact ⟨_, List.mem_map.2 ⟨g, hg, rfl⟩, p, hp, by rw [rootAt_P]; exact e⟩
theorem rooted_gbs (R : RS) (gb : Nat) (r : Int) : (R.rooted gb r).L.map (fun g => g.gb) = R.L.map (fun g => g.gb) := by
  simp only [RS.rooted, List.map_map]
  exact List.map_congr_left (fun g _ => rootAt_gb gb r g)

theorem Refm.rooted {w : World} {rb : Nat} {R : RS} (h : Refm w rb R) {g : RG} (hg : g ∈ R.L) (r : Int) : Refm (w.setCell ⟨g.gb, 1, none⟩ (.int .i64 r)) rb (R.rooted g.gb r) := by
  have hgs : R.isGs g.gb := ⟨g, hg, rfl⟩
  have e1 : rb ≠ g.gb := fun e => h.n2 (by rw [e]; exact hgs)
  have e2 : R.gv.ownBlock ≠ some g.gb := fun e => (h.n4 _ e).1 hgs
  obtain ⟨t, rw0⟩ := h.row
  have e3 : (R.rooted g.gb r).L.map (fun g => pt g.gb) = R.L.map (fun g => pt g.gb) := by
    have := congrArg (List.map pt) (rooted_gbs R g.gb r)
    simp only [List.map_map] at this ⊢
    exact this
  have e4 : (R.rooted g.gb r).L.length = R.L.length := by simp only [RS.rooted, List.length_map]
  refine ⟨⟨t, rw0.setOther e1 _⟩, ?_, fun x hx => ?_, fun x hx => ?_, h.n1, fun q => h.n2 (rooted_isGs.1 q), fun q => h.n3 (rooted_isPg.1 q), fun x hx => ⟨fun q => (h.n4 x hx).1 (rooted_isGs.1 q), fun q => (h.n4 x hx).2 (rooted_isPg.1 q)⟩, fun x hx q => h.n5 x (rooted_isGs.1 hx) (rooted_isPg.1 q), by rw [rooted_gbs]; exact h.nd, by rw [e4]; exact h.many⟩
  · rw [e3, e4]
    exact owns_only h.sl ((Only.refl (One g.gb) w).setOne 1 _) (fun b hb e => e2 (by rw [show R.gv.ownBlock = some b from hb, show b = g.gb from e]))
  · obtain ⟨g', hg', rfl⟩ := List.mem_map.1 hx
    obtain ⟨t, q⟩ := h.gs g' hg'
    rw [rootAt_gb]
    by_cases e : g'.gb = g.gb
    · simp only [rootAt, e, if_true]
      rw [e] at q
      refine ⟨t, (q.set _ _).congr (fun j hj => ?_)⟩
      simp only [RG.cell]
      by_cases j1 : j = 1
      · subst j1; rfl
      · simp only [if_neg j1]
    · simp only [rootAt, e, if_false]
      exact ⟨t, q.setOther e _⟩
  · have hx := rooted_isPg.1 hx
    obtain ⟨t, q⟩ := h.ps x hx
    exact ⟨t, q.setOther (fun e => h.n5 g.gb hgs (by rw [← show x = g.gb from e]; exact hx)) _⟩

def RS.rootCode (R : RS) (n p : Int) : Int := match findFrom R.L n with | none => 4 | some _ => if p < -1 ∨ 64 ≤ p then 5 else 0

set_option maxHeartbeats 1000000 in
theorem rroot_any (w : World) (rb : Nat) (R : RS) (h : Refm w rb R) (n p : Int) :
    Calls Tryz.prog 34 #[pt rb, .int .i64 n, .int .i64 p] w fun e w' => ∃ R', e = .returned (.int .i64 (R.rootCode n p)) ∧ Refm w' rb R' ∧ Only (R.own rb) w w' ∧
      (R.rootCode n p = 0 → ∃ g, findFrom R.L n = some g ∧ R' = R.rooted g.gb p) ∧ (R.rootCode n p ≠ 0 → R' = R) := by
  cases hf : findFrom R.L n with
  | none =>
    have HR : Hid (R.rootCode n p = 4) := by simp only [Hid, RS.rootCode, hf]
    have HF := hid hf
    clear hf
    go_enter Tryz.func34, Tryz.ntmps34
    go_wp2_with fail
    refine (rguest_any _ rb R h n).mono ?_
    rintro e w1 ⟨rfl, rfl⟩
    rw [HF.out]
    simp only [Option.map_none, ptO_none]
    go_wp2
    go_ret
    exact ⟨R, by rw [HR.out]; rfl, h, Only.refl _ _, fun q => by rw [HR.out] at q; omega, fun _ => rfl⟩
  | some g =>
    obtain ⟨hg, _⟩ := findFrom_mem hf
    by_cases ha : p < -1 ∨ 64 ≤ p
    · have HR : Hid (R.rootCode n p = 5) := by simp only [Hid, RS.rootCode, hf, ha, if_true]
      have HF := hid hf
      clear hf
      rcases ha with ha | ha
      · go_enter Tryz.func34, Tryz.ntmps34
        go_wp2_with fail
        refine (rguest_any _ rb R h n).mono ?_
        rintro e w1 ⟨rfl, rfl⟩
        rw [HF.out]
        simp only [Option.map_some, ptO_some]
        go_wp2
        go_ret
        exact ⟨R, by rw [HR.out]; rfl, h, Only.refl _ _, fun q => by rw [HR.out] at q; omega, fun _ => rfl⟩
      · have ha2 : ¬ p < -1 := by omega
        go_enter Tryz.func34, Tryz.ntmps34
        go_wp2_with fail
        refine (rguest_any _ rb R h n).mono ?_
        rintro e w1 ⟨rfl, rfl⟩
        rw [HF.out]
        simp only [Option.map_some, ptO_some]
        go_wp2
        go_ret
        exact ⟨R, by rw [HR.out]; rfl, h, Only.refl _ _, fun q => by rw [HR.out] at q; omega, fun _ => rfl⟩
    · have h0 : ¬ p < -1 := by omega
      have h1 : ¬ 64 ≤ p := by omega
      have HR : Hid (R.rootCode n p = 0) := by simp only [Hid, RS.rootCode, hf, ha, if_false]
      have HF := hid hf
      obtain ⟨t, r⟩ := h.gs g hg
      have fz := r.frozen 1
      have hc1 : w.cell? ⟨g.gb, 1, none⟩ = some (.int .i64 g.root) := r.cell (by omega)
      have hX := hid (h.rooted hg p)
      clear hf ha r
      go_enter Tryz.func34, Tryz.ntmps34
      go_wp2_with fail
      refine (rguest_any _ rb R h n).mono ?_
      rintro e w1 ⟨rfl, rfl⟩
      rw [HF.out]
      simp only [Option.map_some, ptO_some]
      go_wp2
      go_ret
      exact ⟨R.rooted g.gb p, by rw [HR.out]; rfl, hX.out, (Only.refl _ _).setCell (p := ⟨g.gb, 1, none⟩) (fun _ => Or.inr (Or.inr (Or.inl ⟨g, hg, rfl⟩))) _, fun _ => ⟨g, rfl, rfl⟩, fun q => (q HR.out).elim⟩
end Go.Proofs.YtfcepnhknmbaaaaGreat

/- The contract of the document's Share. -/
namespace Go.Proofs.YtfcepnhknmbaaaaGreat
open Go.RowKit Go.Deep

set_option maxHeartbeats 400000 in
theorem risPage_any (w : World) (p : Int) : Calls Tryz.prog 69 #[.int .i64 p] w fun e w' => e = .returned (.bool (isPg p)) ∧ w = w' := by
  by_cases h0 : 0 ≤ p
  · by_cases h1 : p < 64
    · have HP : Hid (isPg p = true) := by simp [Hid, isPg, h0, h1]
      go_enter Tryz.func69, Tryz.ntmps69
      go_wp2
      go_ret
      exact ⟨by rw [HP.out]; rfl, rfl⟩
    · have HP : Hid (isPg p = false) := by simp [Hid, isPg, h1]
      go_enter Tryz.func69, Tryz.ntmps69
      go_wp2
      go_ret
      exact ⟨by rw [HP.out]; rfl, rfl⟩
  · have HP : Hid (isPg p = false) := by simp [Hid, isPg, h0]
    go_enter Tryz.func69, Tryz.ntmps69
    go_wp2
    go_ret
    exact ⟨by rw [HP.out]; rfl, rfl⟩

def pgOk (p : Int) : Bool := isPg p
def RS.shareCode (R : RS) (n p m q : Int) (W : Bool) : Int :=
  match findFrom R.L n, findFrom R.L m with
  | some f, some t => if pgOk p && pgOk q then
      match f.P p.toNat with
      | none => 7
      | some _ => if W && !f.Wr p.toNat then 8 else if (t.P q.toNat).isSome then 6 else if R.free < t.takes (q.toNat / 8) then 3 else 0
    else 5
  | _, _ => 4

set_option maxRecDepth 100000 in
set_option maxHeartbeats 4000000 in
theorem rshareGood_any (w : World) (rb : Nat) (R : RS) (h : Refm w rb R) (hn : R.n ≤ 64) (n p m q : Int) (W : Bool) (f t : RG) (b : Nat) (hf : findFrom R.L n = some f) (ht : findFrom R.L m = some t)
    (p0 : 0 ≤ p) (p1 : p < 64) (q0 : 0 ≤ q) (q1 : q < 64) (hx : f.P p.toNat = some b) (hw : (W && !f.Wr p.toNat) = false) (hy : t.P q.toNat = none) (hfr : ¬ R.free < t.takes (q.toNat / 8)) :
    Calls Tryz.prog 32 #[pt rb, .int .i64 n, .int .i64 p, .int .i64 m, .int .i64 q, .bool W] w fun e w' => e = .returned (.int .i64 0) ∧ Refm w' rb (R.set t.gb q.toNat (some b) W) ∧ Only (R.own rb) w w' := by
  obtain ⟨hfm, _⟩ := findFrom_mem hf
  obtain ⟨htm, _⟩ := findFrom_mem ht
  have hfb := R.free_bd hn h.many
  have htl := takes_le t (q.toNat / 8)
  obtain ⟨cf1, cf2⟩ := h.gpage hfm (p := p.toNat) (by omega)
  obtain ⟨ct1, _⟩ := h.gpage htm (p := q.toNat) (by omega)
  rw [hx, ptO_some] at cf1
  rw [hy, ptO_none] at ct1
  have hpb : R.isPg b := ⟨f, hfm, _, by omega, hx⟩
  have HF := hid hf
  have HT := hid ht
  have IP : Hid (isPg p = true) := by simp [Hid, isPg, p0, p1]
  have IQ : Hid (isPg q = true) := by simp [Hid, isPg, q0, q1]
  have fl := isGs_lt h ⟨f, hfm, rfl⟩
  have tl := isGs_lt h ⟨t, htm, rfl⟩
  have HPB := hid hpb
  clear hf ht hx hy hpb
  generalize f.Wr p.toNat = wr at *
  go_enter Tryz.func32, Tryz.ntmps32
  go_wp2_with fail
  refine (rguest_any _ rb R h n).mono ?_
  rintro e w1 ⟨rfl, rfl⟩
  rw [HF.out]
  simp only [Option.map_some, ptO_some]
  go_wp2_with fail
  refine (rguest_any _ rb R h m).mono ?_
  rintro e w1 ⟨rfl, rfl⟩
  rw [HT.out]
  simp only [Option.map_some, ptO_some]
  go_wp2_with fail
  refine (risPage_any _ p).mono ?_
  rintro e w1 ⟨rfl, rfl⟩
  rw [IP.out]
  go_wp2_with fail
  refine (risPage_any _ q).mono ?_
  rintro e w1 ⟨rfl, rfl⟩
  rw [IQ.out]
  have ho0 : Only Nob w (w.alloc (.cells #[.pointer (some ⟨b, 0, none⟩), .bool wr] 77)) := (Only.refl _ _).alloc _
  have hR0 := hid (h.nob ho0)
  have HO0 := hid ho0
  have HX : Hid ((w.alloc (.cells #[.pointer (some ⟨b, 0, none⟩), .bool wr] 77)).cell? ⟨w.heap.size, 0, none⟩ = some (.pointer (some ⟨b, 0, none⟩))) := Only.laid (w := w) (c := #[.pointer (some ⟨b, 0, none⟩), .bool wr]) (t := 77) (Only.refl Nob _) (fun q => q) 0
  have HFZ : Hid ((w.alloc (.cells #[.pointer (some ⟨b, 0, none⟩), .bool wr] 77)).heap.size = w.heap.size + 1) := by simp [Hid]
  clear ho0
  cases W <;> cases wr <;> first | (exact absurd hw (by decide)) | skip
  all_goals
    clear hw
    go_wp2_with fail
    refine (rfree_any _ rb R hR0.out hn).mono ?_
    rintro e w2 ⟨rfl, ho2⟩
    have hR2 := hR0.out.nob ho2
    go_wp2_with fail
    refine (rtakes_any _ rb R hR2 t htm q q0 q1).mono ?_
    rintro e w3 ⟨rfl, rfl⟩
    have hbx := ho2.keep (fun q => q) HX.out
    obtain ⟨ct3, cw3⟩ := hR2.gpage htm (p := q.toNat) (by omega)
    obtain ⟨tt, r⟩ := hR2.gs t htm
    have fz1 := r.frozen (2 + q.toNat * 2)
    have fz2 := r.frozen (2 + q.toNat * 2 + 1)
    have hR3 : Hid (∀ b' : Bool, Refm ((w2.setCell ⟨t.gb, 2 + q.toNat * 2, none⟩ (ptO (some b))).setCell ⟨t.gb, 2 + q.toNat * 2 + 1, none⟩ (.bool b')) rb (R.set t.gb q.toNat (some b) b')) := fun b' => (hR2.set htm (p := q.toNat) (o := some b) (b := b') (fun x e => by
      injection e with e
      subst e
      exact ⟨hR2.ps _ HPB.out, fun e => h.n3 (by rw [← e]; exact HPB.out), fun e => (h.n4 _ e).2 HPB.out, fun e => h.n5 _ e HPB.out⟩))
    have HO2 := hid ((HO0.out).trans ho2)
    clear r ho2
    generalize R.free = fr at *
    generalize t.takes (q.toNat / 8) = tk at *
    go_wp2_with fail
    go_region
    go_wp2
    go_ret
    refine ⟨rfl, (hR3.out _).nob (Only.refl Nob _).drew, ?_⟩
    have hgs : R.own rb t.gb := Or.inr (Or.inr (Or.inl ⟨t, htm, rfl⟩))
    exact ((((HO2.out.of_nob (S := R.own rb))).setCell (p := ⟨t.gb, _, none⟩) (fun _ => hgs) _).setCell (p := ⟨t.gb, _, none⟩) (fun _ => hgs) _).drew

set_option maxRecDepth 100000 in
set_option maxHeartbeats 4000000 in
theorem rshareBad_any (w : World) (rb : Nat) (R : RS) (h : Refm w rb R) (hn : R.n ≤ 64) (n p m q : Int) (W : Bool) (hc : R.shareCode n p m q W ≠ 0) :
    Calls Tryz.prog 32 #[pt rb, .int .i64 n, .int .i64 p, .int .i64 m, .int .i64 q, .bool W] w fun e w' => e = .returned (.int .i64 (R.shareCode n p m q W)) ∧ Only Nob w w' := by
  cases hf : findFrom R.L n with
  | none =>
    have HC : Hid (R.shareCode n p m q W = 4) := by simp only [Hid, RS.shareCode, hf]
    have HF := hid hf
    clear hf hc
    cases ht : findFrom R.L m with
    | none =>
      have HT := hid ht
      clear ht
      go_enter Tryz.func32, Tryz.ntmps32
      go_wp2_with fail
      refine (rguest_any _ rb R h n).mono ?_
      rintro e w1 ⟨rfl, rfl⟩
      rw [HF.out]
      simp only [Option.map_none, ptO_none]
      go_wp2_with fail
      refine (rguest_any _ rb R h m).mono ?_
      rintro e w1 ⟨rfl, rfl⟩
      rw [HT.out]
      simp only [Option.map_none, ptO_none]
      go_wp2
      go_ret
      exact ⟨by rw [HC.out]; rfl, Only.refl _ _⟩
    | some t =>
      have HT := hid ht
      clear ht
      go_enter Tryz.func32, Tryz.ntmps32
      go_wp2_with fail
      refine (rguest_any _ rb R h n).mono ?_
      rintro e w1 ⟨rfl, rfl⟩
      rw [HF.out]
      simp only [Option.map_none, ptO_none]
      go_wp2_with fail
      refine (rguest_any _ rb R h m).mono ?_
      rintro e w1 ⟨rfl, rfl⟩
      rw [HT.out]
      simp only [Option.map_some, ptO_some]
      go_wp2
      go_ret
      exact ⟨by rw [HC.out]; rfl, Only.refl _ _⟩
  | some f =>
    cases ht : findFrom R.L m with
    | none =>
      have HC : Hid (R.shareCode n p m q W = 4) := by simp only [Hid, RS.shareCode, hf, ht]
      have HF := hid hf
      have HT := hid ht
      clear hf ht hc
      go_enter Tryz.func32, Tryz.ntmps32
      go_wp2_with fail
      refine (rguest_any _ rb R h n).mono ?_
      rintro e w1 ⟨rfl, rfl⟩
      rw [HF.out]
      simp only [Option.map_some, ptO_some]
      go_wp2_with fail
      refine (rguest_any _ rb R h m).mono ?_
      rintro e w1 ⟨rfl, rfl⟩
      rw [HT.out]
      simp only [Option.map_none, ptO_none]
      go_wp2
      go_ret
      exact ⟨by rw [HC.out]; rfl, Only.refl _ _⟩
    | some t =>
      obtain ⟨hfm, _⟩ := findFrom_mem hf
      obtain ⟨htm, _⟩ := findFrom_mem ht
      have HF := hid hf
      have HT := hid ht
      cases hp : isPg p with
      | false =>
        have HC : Hid (R.shareCode n p m q W = 5) := by simp [Hid, RS.shareCode, hf, ht, pgOk, hp]
        have IP := hid hp
        clear hf ht hc hp
        cases hq : isPg q with
        | false =>
          have IQ := hid hq
          clear hq
          go_enter Tryz.func32, Tryz.ntmps32
          go_wp2_with fail
          refine (rguest_any _ rb R h n).mono ?_
          rintro e w1 ⟨rfl, rfl⟩
          rw [HF.out]
          simp only [Option.map_some, ptO_some]
          go_wp2_with fail
          refine (rguest_any _ rb R h m).mono ?_
          rintro e w1 ⟨rfl, rfl⟩
          rw [HT.out]
          simp only [Option.map_some, ptO_some]
          go_wp2_with fail
          refine (risPage_any _ p).mono ?_
          rintro e w1 ⟨rfl, rfl⟩
          rw [IP.out]
          go_wp2_with fail
          refine (risPage_any _ q).mono ?_
          rintro e w1 ⟨rfl, rfl⟩
          rw [IQ.out]
          go_wp2
          go_ret
          exact ⟨by rw [HC.out]; rfl, Only.refl _ _⟩
        | true =>
          have IQ := hid hq
          clear hq
          go_enter Tryz.func32, Tryz.ntmps32
          go_wp2_with fail
          refine (rguest_any _ rb R h n).mono ?_
          rintro e w1 ⟨rfl, rfl⟩
          rw [HF.out]
          simp only [Option.map_some, ptO_some]
          go_wp2_with fail
          refine (rguest_any _ rb R h m).mono ?_
          rintro e w1 ⟨rfl, rfl⟩
          rw [HT.out]
          simp only [Option.map_some, ptO_some]
          go_wp2_with fail
          refine (risPage_any _ p).mono ?_
          rintro e w1 ⟨rfl, rfl⟩
          rw [IP.out]
          go_wp2_with fail
          refine (risPage_any _ q).mono ?_
          rintro e w1 ⟨rfl, rfl⟩
          rw [IQ.out]
          go_wp2
          go_ret
          exact ⟨by rw [HC.out]; rfl, Only.refl _ _⟩
      | true =>
        have IP := hid hp
        cases hq : isPg q with
        | false =>
          have HC : Hid (R.shareCode n p m q W = 5) := by simp [Hid, RS.shareCode, hf, ht, pgOk, hq]
          have IQ := hid hq
          clear hf ht hc hp hq
          go_enter Tryz.func32, Tryz.ntmps32
          go_wp2_with fail
          refine (rguest_any _ rb R h n).mono ?_
          rintro e w1 ⟨rfl, rfl⟩
          rw [HF.out]
          simp only [Option.map_some, ptO_some]
          go_wp2_with fail
          refine (rguest_any _ rb R h m).mono ?_
          rintro e w1 ⟨rfl, rfl⟩
          rw [HT.out]
          simp only [Option.map_some, ptO_some]
          go_wp2_with fail
          refine (risPage_any _ p).mono ?_
          rintro e w1 ⟨rfl, rfl⟩
          rw [IP.out]
          go_wp2_with fail
          refine (risPage_any _ q).mono ?_
          rintro e w1 ⟨rfl, rfl⟩
          rw [IQ.out]
          go_wp2
          go_ret
          exact ⟨by rw [HC.out]; rfl, Only.refl _ _⟩
        | true =>
          have IQ := hid hq
          have hpr : 0 ≤ p ∧ p < 64 := by simpa [isPg] using hp
          have hqr : 0 ≤ q ∧ q < 64 := by simpa [isPg] using hq
          obtain ⟨p0, p1⟩ := hpr
          obtain ⟨q0, q1⟩ := hqr
          obtain ⟨cf1, cf2⟩ := h.gpage hfm (p := p.toNat) (by omega)
          obtain ⟨ct1, _⟩ := h.gpage htm (p := q.toNat) (by omega)
          have fl := isGs_lt h ⟨f, hfm, rfl⟩
          have tl := isGs_lt h ⟨t, htm, rfl⟩
          cases hx : f.P p.toNat with
          | none =>
            have HC : Hid (R.shareCode n p m q W = 7) := by simp [Hid, RS.shareCode, hf, ht, pgOk, hp, hq, hx]
            rw [hx, ptO_none] at cf1
            clear hf ht hc hp hq hx ct1
            generalize f.Wr p.toNat = wr at *
            go_enter Tryz.func32, Tryz.ntmps32
            go_wp2_with fail
            refine (rguest_any _ rb R h n).mono ?_
            rintro e w1 ⟨rfl, rfl⟩
            rw [HF.out]
            simp only [Option.map_some, ptO_some]
            go_wp2_with fail
            refine (rguest_any _ rb R h m).mono ?_
            rintro e w1 ⟨rfl, rfl⟩
            rw [HT.out]
            simp only [Option.map_some, ptO_some]
            go_wp2_with fail
            refine (risPage_any _ p).mono ?_
            rintro e w1 ⟨rfl, rfl⟩
            rw [IP.out]
            go_wp2_with fail
            refine (risPage_any _ q).mono ?_
            rintro e w1 ⟨rfl, rfl⟩
            rw [IQ.out]
            go_wp2
            go_ret
            exact ⟨by rw [HC.out]; rfl, (Only.refl _ _).alloc _⟩
          | some b =>
            rw [hx, ptO_some] at cf1
            by_cases hw : (W && !f.Wr p.toNat) = true
            · have HC : Hid (R.shareCode n p m q W = 8) := by simp only [Hid, RS.shareCode, hf, ht, pgOk, hp, hq, hx, hw, Bool.and_self, if_true]
              clear hf ht hc hp hq hx ct1
              generalize f.Wr p.toNat = wr at *
              cases W <;> cases wr <;> first | (exact absurd hw (by decide)) | skip
              all_goals
                clear hw
                go_enter Tryz.func32, Tryz.ntmps32
                go_wp2_with fail
                refine (rguest_any _ rb R h n).mono ?_
                rintro e w1 ⟨rfl, rfl⟩
                rw [HF.out]
                simp only [Option.map_some, ptO_some]
                go_wp2_with fail
                refine (rguest_any _ rb R h m).mono ?_
                rintro e w1 ⟨rfl, rfl⟩
                rw [HT.out]
                simp only [Option.map_some, ptO_some]
                go_wp2_with fail
                refine (risPage_any _ p).mono ?_
                rintro e w1 ⟨rfl, rfl⟩
                rw [IP.out]
                go_wp2_with fail
                refine (risPage_any _ q).mono ?_
                rintro e w1 ⟨rfl, rfl⟩
                rw [IQ.out]
                go_wp2
                go_ret
                exact ⟨by rw [HC.out]; rfl, (Only.refl _ _).alloc _⟩
            · cases hy : t.P q.toNat with
              | some b2 =>
                have HC : Hid (R.shareCode n p m q W = 6) := by simp only [Hid, RS.shareCode, hf, ht, pgOk, hp, hq, hx, hw, hy, Bool.and_self, if_true, if_false, Option.isSome_some, Bool.false_eq_true]
                rw [hy, ptO_some] at ct1
                clear hf ht hc hp hq hx hy
                generalize f.Wr p.toNat = wr at *
                cases W <;> cases wr <;> first | (exact absurd (by decide) hw) | skip
                all_goals
                  clear hw
                  go_enter Tryz.func32, Tryz.ntmps32
                  go_wp2_with fail
                  refine (rguest_any _ rb R h n).mono ?_
                  rintro e w1 ⟨rfl, rfl⟩
                  rw [HF.out]
                  simp only [Option.map_some, ptO_some]
                  go_wp2_with fail
                  refine (rguest_any _ rb R h m).mono ?_
                  rintro e w1 ⟨rfl, rfl⟩
                  rw [HT.out]
                  simp only [Option.map_some, ptO_some]
                  go_wp2_with fail
                  refine (risPage_any _ p).mono ?_
                  rintro e w1 ⟨rfl, rfl⟩
                  rw [IP.out]
                  go_wp2_with fail
                  refine (risPage_any _ q).mono ?_
                  rintro e w1 ⟨rfl, rfl⟩
                  rw [IQ.out]
                  go_wp2
                  go_ret
                  exact ⟨by rw [HC.out]; rfl, (Only.refl _ _).alloc _⟩
              | none =>
                by_cases hfr : R.free < t.takes (q.toNat / 8)
                · have HC : Hid (R.shareCode n p m q W = 3) := by simp only [Hid, RS.shareCode, hf, ht, pgOk, hp, hq, hx, hw, hy, hfr, Bool.and_self, if_true, if_false, Option.isSome_none, Bool.false_eq_true]
                  rw [hy, ptO_none] at ct1
                  have hfb := R.free_bd hn h.many
                  have htl := takes_le t (q.toNat / 8)
                  clear hf ht hc hp hq hx hy
                  generalize f.Wr p.toNat = wr at *
                  have HO0 : Hid (Only Nob w (w.alloc (.cells #[.pointer (some ⟨b, 0, none⟩), .bool wr] 77))) := (Only.refl _ _).alloc _
                  have hR0 := hid (h.nob HO0.out)
                  cases W <;> cases wr <;> first | (exact absurd (by decide) hw) | skip
                  all_goals
                    clear hw
                    go_enter Tryz.func32, Tryz.ntmps32
                    go_wp2_with fail
                    refine (rguest_any _ rb R h n).mono ?_
                    rintro e w1 ⟨rfl, rfl⟩
                    rw [HF.out]
                    simp only [Option.map_some, ptO_some]
                    go_wp2_with fail
                    refine (rguest_any _ rb R h m).mono ?_
                    rintro e w1 ⟨rfl, rfl⟩
                    rw [HT.out]
                    simp only [Option.map_some, ptO_some]
                    go_wp2_with fail
                    refine (risPage_any _ p).mono ?_
                    rintro e w1 ⟨rfl, rfl⟩
                    rw [IP.out]
                    go_wp2_with fail
                    refine (risPage_any _ q).mono ?_
                    rintro e w1 ⟨rfl, rfl⟩
                    rw [IQ.out]
                    go_wp2_with fail
                    refine (rfree_any _ rb R hR0.out hn).mono ?_
                    rintro e w2 ⟨rfl, ho2⟩
                    have hR2 := hR0.out.nob ho2
                    go_wp2_with fail
                    refine (rtakes_any _ rb R hR2 t htm q q0 q1).mono ?_
                    rintro e w3 ⟨rfl, rfl⟩
                    generalize R.free = fr at *
                    generalize t.takes (q.toNat / 8) = tk at *
                    go_wp2
                    go_ret
                    exact ⟨by rw [HC.out]; rfl, HO0.out.trans ho2⟩
                · exfalso
                  refine hc ?_
                  simp only [RS.shareCode, hf, ht, pgOk, hp, hq, hx, hw, hy, hfr, Bool.and_self, if_true, if_false, Option.isSome_none, Bool.false_eq_true]
end Go.Proofs.YtfcepnhknmbaaaaGreat

/- The contracts of the document's turned and meant: a guest's own tables. -/
namespace Go.Proofs.YtfcepnhknmbaaaaGreat
open Go.RowKit Go.Deep

/-- What the document's walk comes to, n levels ahead of the last: the page's number, the fault's kind and level. -/
def RG.lev (g : RG) (Wd : Nat → Nat → Int) (p : Nat) (st : Bool) : Nat → Nat → Nat × Int × Int
  | 0, q => (q, 0, 0)
  | n + 1, q => match g.P q with
    | none => (0, 3, 2 - n)
    | some b => if pres (Wd b (idx (2 - n) p)) then (if st && !wrib (Wd b (idx (2 - n) p)) then (0, 2, 2 - n) else g.lev Wd p st n (numb (Wd b (idx (2 - n) p)))) else (0, 1, 2 - n)
def RG.turned (g : RG) (Wd : Nat → Nat → Int) (p : Nat) (st : Bool) : Nat × Int × Int := if g.root < 0 then (p, 0, 0) else g.lev Wd p st 2 g.root.toNat

/-- Words of the guest's pages are words. -/
def RG.bdd (g : RG) (Wd : Nat → Nat → Int) : Prop := ∀ q b k, q < 64 → g.P q = some b → k < 8 → 0 ≤ Wd b k ∧ Wd b k ≤ 65535

theorem even_of {x : Int} (h : pres x = false) (h0 : 0 ≤ x) : (x.tmod 2 == 0) = true := by
  rw [Int.tmod_eq_emod_of_nonneg h0]
  simp only [pres, beq_eq_false_iff_ne, ne_eq] at h
  simp only [beq_iff_eq]
  omega
theorem odd_of {x : Int} (h : pres x = true) (h0 : 0 ≤ x) : (x.tmod 2 == 0) = false := by
  rw [Int.tmod_eq_emod_of_nonneg h0]
  simp only [pres, beq_iff_eq] at h
  simp only [beq_eq_false_iff_ne, ne_eq]
  omega

set_option maxRecDepth 100000 in
set_option maxHeartbeats 2000000 in
theorem rturned_any (w : World) (rb : Nat) (R : RS) (h : Refm w rb R) (g : RG) (hg : g ∈ R.L) (hb : g.bdd R.Wd) (hr : -1 ≤ g.root ∧ g.root < 64) (p : Int) (h0 : 0 ≤ p) (h1 : p < 64) (st : Bool) :
    Calls Tryz.prog 92 #[pt g.gb, .int .i64 p, .bool st] w fun e w' => e = .returned (.tuple #[.int .i64 ((g.turned R.Wd p.toNat st).1 : Nat), .agg #[.int .i64 (g.turned R.Wd p.toNat st).2.1, .int .i64 (g.turned R.Wd p.toNat st).2.2]]) ∧ Only Nob w w' := by
  have o1 : Only Nob w (w.alloc (.cells #[.int .i64 0, .int .i64 0] 53)) := (Only.refl _ _).alloc _
  have hA := h.nob o1
  obtain ⟨t, rg⟩ := hA.gs g hg
  have hc1 : (w.alloc (.cells #[.int .i64 0, .int .i64 0] 53)).cell? ⟨g.gb, 1, none⟩ = some (.int .i64 g.root) := rg.cell (by omega)
  have hlt : g.gb < w.heap.size := by
    obtain ⟨t, r⟩ := h.gs g hg
    exact r.lt
  have hmod := Int.tmod_eq_emod_of_nonneg h0 (b := 8)
  have hdiv := Int.tdiv_eq_ediv_of_nonneg h0 (b := 8)
  by_cases hroot : g.root < 0
  · have HT : Hid (g.turned R.Wd p.toNat st = (p.toNat, 0, 0)) := by rw [Hid, RG.turned, if_pos hroot]
    have hp : ((p.toNat : Nat) : Int) = p := by omega
    have HP := hid hp
    clear hp rg
    go_enter Tryz.func92, Tryz.ntmps92
    go_wp2
    refine bodyPost_ret (v := .tuple #[.int .i64 p, .agg #[.int .i64 0, .int .i64 0]]) (by simp [results, Tryz.results92, go_sem]) rfl ⟨?_, ?_⟩
    · rw [HT.out, HP.out]
    · exact o1
  · have hT : g.turned R.Wd p.toNat st = g.lev R.Wd p.toNat st 2 g.root.toNat := by rw [RG.turned, if_neg hroot]
    generalize g.turned R.Wd p.toNat st = T at *
    have HT := hid hT
    have hrr : ((g.root.toNat : Nat) : Int) = g.root := by omega
    have HRR := hid hrr
    have HB := hid hb
    have HA := hid hA
    have HO1 := hid o1
    have hB7 : w.heap.size < (w.alloc (.cells #[.int .i64 0, .int .i64 0] 53)).heap.size := by rw [World.size_alloc]; omega
    have r0 := World.rowIs_alloc w #[.int .i64 0, .int .i64 0] 53 (fun _ => .int .i64 0) (fun i hi => by
      have hi : i < 2 := hi
      have e : i = 0 ∨ i = 1 := by omega
      rcases e with e | e <;> subst e <;> rfl)
    have HR0 := hid r0
    clear hT hrr hb hA rg r0 hB7
    go_enter Tryz.func92, Tryz.ntmps92
    go_wp2
    go_loopw [8, 9, 10, 11, 12] (fun x lv _ _ _ wr => ∃ (n q : Nat) (l : Int), n ≤ 2 ∧ q < 64 ∧ l = 3 - n ∧ x = .int .i64 q ∧ lv = .int .i64 l ∧ g.lev R.Wd p.toNat st n q = T ∧ Only Nob (w.alloc (.cells #[.int .i64 0, .int .i64 0] 53)) wr) (fun _ lv _ _ _ _ => (3 - intOf lv).toNat)
    case atStart => exact ⟨2, g.root.toNat, 1, by omega, by omega, rfl, by rw [HRR.out], rfl, HT.out.symm, Only.refl _ _⟩
    case round =>
      obtain ⟨n, q, l, hn, hq, hl3, rfl, rfl, hl, ho⟩ := hrel
      have r7 := ho.row HR0.out (fun q => q)
      have d0 : wr.cell? ⟨w.heap.size, 0, none⟩ = some (.int .i64 0) := r7.cell (i := 0) (by show 0 < 2; omega)
      have d1 : wr.cell? ⟨w.heap.size, 1, none⟩ = some (.int .i64 0) := r7.cell (i := 1) (by show 1 < 2; omega)
      have d2 := r7.frozen 0
      have d3 := r7.frozen 1
      have d4 := r7.lt
      have HO := hid (HO1.out.trans ho)
      have HFIN : Hid (∀ u v o, Only Nob w (((wr.setCell ⟨w.heap.size, 0, none⟩ u).setCell ⟨w.heap.size, 1, none⟩ v).alloc o)) := fun u v o => ((HO.out.setCell (p := ⟨w.heap.size, 0, none⟩) (fun q => absurd q (by show ¬ w.heap.size < w.heap.size; omega)) _).setCell (p := ⟨w.heap.size, 1, none⟩) (fun q => absurd q (by show ¬ w.heap.size < w.heap.size; omega)) _).alloc _
      cases n with
      | zero =>
        have e3 : l = 3 := by omega
        subst e3
        have HV := hid hl
        clear hl hl3 r7 ho
        go_wp2
        refine bodyPost_ret (v := .tuple #[.int .i64 q, .agg #[.int .i64 0, .int .i64 0]]) (by simp [results, Tryz.results92, go_sem, d0, d1]) rfl ⟨?_, ?_⟩
        · rw [← HV.out]
          rfl
        · exact (HO.out.setCell (p := ⟨w.heap.size, 0, none⟩) (fun q => absurd q (by show ¬ w.heap.size < w.heap.size; omega)) _).setCell (p := ⟨w.heap.size, 1, none⟩) (fun q => absurd q (by show ¬ w.heap.size < w.heap.size; omega)) _
      | succ n =>
        have hl1 : l ≤ 2 := by omega
        have hl0 : 1 ≤ l := by omega
        have e2 : ((2 : Int) - n) = l := by omega
        rw [RG.lev, e2] at hl
        have HL3 := hid hl3
        have HAr := HA.out.nob ho
        obtain ⟨hcp, hcw⟩ := HAr.gpage hg hq
        have hi8 : idx l p.toNat < 8 := by simp only [idx]; split <;> omega
        cases hx : g.P q with
        | none =>
          rw [hx] at hl
          rw [hx, ptO_none] at hcp
          have hl : T = (0, 3, l) := hl.symm
          subst hl
          clear hl3 e2 r7
          go_wp2
          refine bodyPost_ret (v := .tuple #[.int .i64 0, .agg #[.int .i64 3, .int .i64 l]]) (by simp [results, Tryz.results92, go_sem, d0, d1, d4]) rfl ⟨rfl, HFIN.out _ _ _⟩
        | some b =>
          rw [hx] at hl
          simp only [] at hl
          rw [hx, ptO_some] at hcp
          have hcp0 := hcp
          obtain ⟨t, r⟩ := HAr.ps b ⟨g, hg, q, hq, hx⟩
          have hblt := r.lt
          have hl12 : l = 1 ∨ l = 2 := by omega
          rcases hl12 with rfl | rfl
          · skip
            have hcy : wr.cell? ⟨b, 1 + (p / 8).toNat, none⟩ = some (.int .i64 (R.Wd b (p.toNat / 8))) := by
              rw [r.cell (by omega)]
              simp only [RS.pgCell]
              rw [if_neg (by omega), show 1 + (p / 8).toNat - 1 = p.toNat / 8 by omega]
            have hbd := HB.out q b (p.toNat / 8) hq hx (by omega)
            have hidx : idx 1 p.toNat = p.toNat / 8 := by simp [idx]
            rw [hidx] at hl
            generalize R.Wd b (p.toNat / 8) = y at *
            have m2 := Int.tmod_eq_emod_of_nonneg hbd.1 (b := 2)
            have q2 := Int.tdiv_eq_ediv_of_nonneg hbd.1 (b := 2)
            have m22 := Int.tmod_eq_emod_of_nonneg (a := y / 2) (by omega) (b := 2)
            have q4 := Int.tdiv_eq_ediv_of_nonneg hbd.1 (b := 4)
            have m64 := Int.tmod_eq_emod_of_nonneg (a := y / 4) (by omega) (b := 64)
            clear hx hidx hcp0 r r7 hl3 e2
            cases hy : pres y with
            | false =>
              rw [hy] at hl
              have hl : T = (0, 1, 1) := hl.symm
              subst hl
              have e0 : (y % 2 == 0) = true := by simp only [pres, beq_eq_false_iff_ne, ne_eq] at hy; simp only [beq_iff_eq]; omega
              go_wp2
              refine bodyPost_ret (v := .tuple #[.int .i64 0, .agg #[.int .i64 1, .int .i64 1]]) (by simp [results, Tryz.results92, go_sem, d0, d1, d4]) rfl ⟨rfl, HFIN.out _ _ _⟩
            | true =>
              rw [hy] at hl
              have e0 : (y % 2 == 0) = false := by simp only [pres, beq_iff_eq] at hy; simp only [beq_eq_false_iff_ne, ne_eq]; omega
              have hnm : ((numb y : Nat) : Int) = y / 4 % 64 := by simp only [numb]; omega
              have hnl := numb_lt y
              have HNM := hid hnm
              have HOA := hid (ho.alloc (.cells #[pt b, .bool (g.Wr q)] 77))
              clear hnm
              cases st with
              | false =>
                have HV := hid hl
                clear hl
                go_wp2
                go_roundw
                case rel => exact ⟨n, numb y, 1 + 1, by omega, by omega, by have := HL3.out; omega, by rw [HNM.out], rfl, HV.out, HOA.out⟩
                case measure => simp [intOf]
              | true =>
                cases hw : wrib y with
                | false =>
                  rw [hw] at hl
                  have hl : T = (0, 2, 1) := hl.symm
                  subst hl
                  have e1 : (y / 2 % 2 == 0) = true := by simp only [wrib, beq_eq_false_iff_ne, ne_eq] at hw; simp only [beq_iff_eq]; omega
                  go_wp2
                  refine bodyPost_ret (v := .tuple #[.int .i64 0, .agg #[.int .i64 2, .int .i64 1]]) (by simp [results, Tryz.results92, go_sem, d0, d1, d4]) rfl ⟨rfl, HFIN.out _ _ _⟩
                | true =>
                  rw [hw] at hl
                  have e1 : (y / 2 % 2 == 0) = false := by simp only [wrib, beq_iff_eq] at hw; simp only [beq_eq_false_iff_ne, ne_eq]; omega
                  have HV := hid hl
                  clear hl
                  go_wp2
                  go_roundw
                  case rel => exact ⟨n, numb y, 1 + 1, by omega, by omega, by have := HL3.out; omega, by rw [HNM.out], rfl, HV.out, HOA.out⟩
                  case measure => simp [intOf]
          · skip
            have hcy : wr.cell? ⟨b, 1 + (p % 8).toNat, none⟩ = some (.int .i64 (R.Wd b (p.toNat % 8))) := by
              rw [r.cell (by omega)]
              simp only [RS.pgCell]
              rw [if_neg (by omega), show 1 + (p % 8).toNat - 1 = p.toNat % 8 by omega]
            have hbd := HB.out q b (p.toNat % 8) hq hx (by omega)
            have hidx : idx 2 p.toNat = p.toNat % 8 := by simp [idx]
            rw [hidx] at hl
            generalize R.Wd b (p.toNat % 8) = y at *
            have m2 := Int.tmod_eq_emod_of_nonneg hbd.1 (b := 2)
            have q2 := Int.tdiv_eq_ediv_of_nonneg hbd.1 (b := 2)
            have m22 := Int.tmod_eq_emod_of_nonneg (a := y / 2) (by omega) (b := 2)
            have q4 := Int.tdiv_eq_ediv_of_nonneg hbd.1 (b := 4)
            have m64 := Int.tmod_eq_emod_of_nonneg (a := y / 4) (by omega) (b := 64)
            clear hx hidx hcp0 r r7 hl3 e2
            cases hy : pres y with
            | false =>
              rw [hy] at hl
              have hl : T = (0, 1, 2) := hl.symm
              subst hl
              have e0 : (y % 2 == 0) = true := by simp only [pres, beq_eq_false_iff_ne, ne_eq] at hy; simp only [beq_iff_eq]; omega
              go_wp2
              refine bodyPost_ret (v := .tuple #[.int .i64 0, .agg #[.int .i64 1, .int .i64 2]]) (by simp [results, Tryz.results92, go_sem, d0, d1, d4]) rfl ⟨rfl, HFIN.out _ _ _⟩
            | true =>
              rw [hy] at hl
              have e0 : (y % 2 == 0) = false := by simp only [pres, beq_iff_eq] at hy; simp only [beq_eq_false_iff_ne, ne_eq]; omega
              have hnm : ((numb y : Nat) : Int) = y / 4 % 64 := by simp only [numb]; omega
              have hnl := numb_lt y
              have HNM := hid hnm
              have HOA := hid (ho.alloc (.cells #[pt b, .bool (g.Wr q)] 77))
              clear hnm
              cases st with
              | false =>
                have HV := hid hl
                clear hl
                go_wp2
                go_roundw
                case rel => exact ⟨n, numb y, 2 + 1, by omega, by omega, by have := HL3.out; omega, by rw [HNM.out], rfl, HV.out, HOA.out⟩
                case measure => simp [intOf]
              | true =>
                cases hw : wrib y with
                | false =>
                  rw [hw] at hl
                  have hl : T = (0, 2, 2) := hl.symm
                  subst hl
                  have e1 : (y / 2 % 2 == 0) = true := by simp only [wrib, beq_eq_false_iff_ne, ne_eq] at hw; simp only [beq_iff_eq]; omega
                  go_wp2
                  refine bodyPost_ret (v := .tuple #[.int .i64 0, .agg #[.int .i64 2, .int .i64 2]]) (by simp [results, Tryz.results92, go_sem, d0, d1, d4]) rfl ⟨rfl, HFIN.out _ _ _⟩
                | true =>
                  rw [hw] at hl
                  have e1 : (y / 2 % 2 == 0) = false := by simp only [wrib, beq_iff_eq] at hw; simp only [beq_eq_false_iff_ne, ne_eq]; omega
                  have HV := hid hl
                  clear hl
                  go_wp2
                  go_roundw
                  case rel => exact ⟨n, numb y, 2 + 1, by omega, by omega, by have := HL3.out; omega, by rw [HNM.out], rfl, HV.out, HOA.out⟩
                  case measure => simp [intOf]
end Go.Proofs.YtfcepnhknmbaaaaGreat

/- The contracts of the document's meant, Load, Store. -/
namespace Go.Proofs.YtfcepnhknmbaaaaGreat
open Go.RowKit Go.Deep

theorem RG.lev_cases (g : RG) (Wd : Nat → Nat → Int) (p : Nat) (st : Bool) : ∀ n q, q < 64 → (∃ q', q' < 64 ∧ g.lev Wd p st n q = (q', 0, 0)) ∨ (∃ k l, g.lev Wd p st n q = (0, k, l) ∧ 1 ≤ k ∧ k ≤ 3)
  | 0, q, hq => Or.inl ⟨q, hq, rfl⟩
  | n + 1, q, hq => by
    rw [RG.lev]
    cases g.P q with
    | none => exact Or.inr ⟨3, 2 - n, rfl, by omega, by omega⟩
    | some b =>
      simp only []
      by_cases hy : pres (Wd b (idx (2 - n) p)) = true
      · rw [if_pos hy]
        by_cases hw : (st && !wrib (Wd b (idx (2 - n) p))) = true
        · rw [if_pos hw]
          exact Or.inr ⟨2, 2 - n, rfl, by omega, by omega⟩
        · rw [if_neg hw]
          exact RG.lev_cases g Wd p st n _ (by have := numb_lt (Wd b (idx (2 - n) p)); omega)
      · rw [if_neg hy]
        exact Or.inr ⟨1, 2 - n, rfl, by omega, by omega⟩

theorem RG.turned_cases (g : RG) (Wd : Nat → Nat → Int) {p : Nat} (hp : p < 64) (st : Bool) (hr : g.root < 64) : (∃ q', q' < 64 ∧ g.turned Wd p st = (q', 0, 0)) ∨ (∃ k l, g.turned Wd p st = (0, k, l) ∧ 1 ≤ k ∧ k ≤ 3) := by
  rw [RG.turned]
  split
  · exact Or.inl ⟨p, hp, rfl⟩
  · exact RG.lev_cases g Wd p st 2 _ (by omega)

/-- The page that is meant, or the fault. -/
def RG.meant (g : RG) (Wd : Nat → Nat → Int) (p : Nat) (st : Bool) : Option Nat × Int × Int :=
  if (g.turned Wd p st).2.1 ≠ 0 then (none, (g.turned Wd p st).2) else match g.P (g.turned Wd p st).1 with
    | none => (none, 3, 3)
    | some b => if st && !g.Wr (g.turned Wd p st).1 then (none, 4, 3) else (some b, 0, 0)

theorem row50 (w : World) (k l : Int) : (w.alloc (.cells #[.int .i64 k, .int .i64 l] 53)).rowIs w.heap.size 53 2 (fun i => if i = 0 then .int .i64 k else .int .i64 l) :=
  World.rowIs_alloc w #[.int .i64 k, .int .i64 l] 53 _ (fun i hi => by
    have hi : i < 2 := hi
    have e : i = 0 ∨ i = 1 := by omega
    rcases e with e | e <;> subst e <;> rfl)

theorem only_set2 {w w2 : World} (o : Only Nob w w2) (u v : Value) : Only Nob w ((w2.setCell ⟨w.heap.size, 0, none⟩ u).setCell ⟨w.heap.size, 1, none⟩ v) :=
  (o.setCell (p := ⟨w.heap.size, 0, none⟩) (fun q => absurd q (by show ¬ w.heap.size < w.heap.size; omega)) _).setCell (p := ⟨w.heap.size, 1, none⟩) (fun q => absurd q (by show ¬ w.heap.size < w.heap.size; omega)) _

set_option maxRecDepth 100000 in
set_option maxHeartbeats 2000000 in
theorem rmeant_any (w : World) (rb : Nat) (R : RS) (h : Refm w rb R) (g : RG) (hg : g ∈ R.L) (hb : g.bdd R.Wd) (hr : -1 ≤ g.root ∧ g.root < 64) (a : Int) (h0 : 0 ≤ a) (h1 : a < 512) (st : Bool) :
    Calls Tryz.prog 71 #[pt g.gb, .int .i64 a, .bool st] w fun e w' => e = .returned (.tuple #[ptO (g.meant R.Wd (a.toNat / 8) st).1, .agg #[.int .i64 (g.meant R.Wd (a.toNat / 8) st).2.1, .int .i64 (g.meant R.Wd (a.toNat / 8) st).2.2]]) ∧ Only Nob w w' := by
  have o1 : Only Nob w (w.alloc (.cells #[.int .i64 0, .int .i64 0] 53)) := (Only.refl _ _).alloc _
  have hA := h.nob o1
  have hdiv := Int.tdiv_eq_ediv_of_nonneg h0 (b := 8)
  have HR0 := hid (row50 w 0 0)
  have hcs := g.turned_cases R.Wd (p := a.toNat / 8) (by omega) st hr.2
  have hmt : g.meant R.Wd (a.toNat / 8) st = g.meant R.Wd (a.toNat / 8) st := rfl
  have htn := rturned_any _ rb R hA g hg hb hr (a / 8) (by omega) (by omega) st
  rw [show (a / 8).toNat = a.toNat / 8 by omega] at htn
  have HMT : Hid (∀ T, g.turned R.Wd (a.toNat / 8) st = T → g.meant R.Wd (a.toNat / 8) st = if T.2.1 ≠ 0 then (none, T.2) else match g.P T.1 with | none => (none, 3, 3) | some b => if st && !g.Wr T.1 then (none, 4, 3) else (some b, 0, 0)) := fun T e => by rw [RG.meant, e]
  generalize g.meant R.Wd (a.toNat / 8) st = Y at *
  generalize g.turned R.Wd (a.toNat / 8) st = T at *
  have HY := hid (HMT.out T rfl)
  have HTN := hid htn
  have HCS := hid hcs
  have HA := hid hA
  have hlt : g.gb < w.heap.size := by
    obtain ⟨t, r⟩ := h.gs g hg
    exact r.lt
  clear hcs htn hmt HMT hA
  go_enter Tryz.func71, Tryz.ntmps71
  go_wp2_with fail
  refine HTN.out.mono ?_
  rintro e w2 ⟨rfl, ho⟩
  have r7 := ho.row HR0.out (fun q => q)
  have d0 : w2.cell? ⟨w.heap.size, 0, none⟩ = some (.int .i64 0) := r7.cell (i := 0) (by omega)
  have d1 : w2.cell? ⟨w.heap.size, 1, none⟩ = some (.int .i64 0) := r7.cell (i := 1) (by omega)
  have d2 := r7.frozen 0
  have d3 := r7.frozen 1
  have d4 := r7.lt
  have HO := hid (o1.trans ho)
  have HAr := hid (HA.out.nob ho)
  have hlt2 : g.gb < w2.heap.size := by
    obtain ⟨t, r⟩ := HAr.out.gs g hg
    exact r.lt
  clear r7
  rcases HCS.out with ⟨q, hq, rfl⟩ | ⟨k, l, rfl, hk1, hk2⟩
  · have HY := HY.out
    rw [if_neg (by simp)] at HY
    simp only [] at HY
    obtain ⟨hcp, hcw⟩ := HAr.out.gpage hg hq
    cases hx : g.P q with
    | none =>
      rw [hx] at HY
      rw [hx, ptO_none] at hcp
      have HY : Y = (none, 3, 3) := HY
      subst HY
      clear HCS
      go_wp2
      refine bodyPost_ret (v := .tuple #[.pointer none, .agg #[.int .i64 3, .int .i64 3]]) (by simp [results, Tryz.results71, go_sem, d0, d1, d4]) rfl ⟨rfl, ?_⟩
      exact ((only_set2 HO.out _ _).alloc _).alloc _
    | some b =>
      rw [hx] at HY
      simp only [] at HY
      rw [hx, ptO_some] at hcp
      clear HCS
      cases st with
      | false =>
        have HY : Y = (some b, 0, 0) := HY
        subst HY
        go_wp2
        refine bodyPost_ret (v := .tuple #[pt b, .agg #[.int .i64 0, .int .i64 0]]) (by simp [results, Tryz.results71, go_sem, d0, d1, d4]) rfl ⟨rfl, ?_⟩
        exact ((only_set2 HO.out _ _).alloc _).alloc _
      | true =>
        cases hw : g.Wr q with
        | false =>
          rw [hw] at HY hcw
          have HY : Y = (none, 4, 3) := HY
          subst HY
          go_wp2
          refine bodyPost_ret (v := .tuple #[.pointer none, .agg #[.int .i64 4, .int .i64 3]]) (by simp [results, Tryz.results71, go_sem, d0, d1, d4]) rfl ⟨rfl, ?_⟩
          exact ((only_set2 HO.out _ _).alloc _).alloc _
        | true =>
          rw [hw] at HY hcw
          have HY : Y = (some b, 0, 0) := HY
          subst HY
          go_wp2
          refine bodyPost_ret (v := .tuple #[pt b, .agg #[.int .i64 0, .int .i64 0]]) (by simp [results, Tryz.results71, go_sem, d0, d1, d4]) rfl ⟨rfl, ?_⟩
          exact ((only_set2 HO.out _ _).alloc _).alloc _
  · have HY := HY.out
    rw [if_pos (by show k ≠ 0; omega)] at HY
    have HY : Y = (none, k, l) := HY
    subst HY
    have hk0 : 0 < k := by omega
    clear HCS
    go_wp2_with fail
    go_region
    all_goals
      go_wp2
      refine bodyPost_ret (v := .tuple #[.pointer none, .agg #[.int .i64 k, .int .i64 l]]) (by simp [results, Tryz.results71, go_sem, d0, d1, d4]) rfl ⟨rfl, ?_⟩
      exact ((only_set2 HO.out _ _).alloc _).drew

/-! Load. -/
def RS.loadAt (R : RS) (n a : Int) : Int × Int × Int × Int := match findFrom R.L n with
  | none => (0, 0, 0, 4)
  | some g => if a < 0 ∨ 512 ≤ a then (0, 0, 0, 5) else match (g.meant R.Wd (a.toNat / 8) false).1 with
    | none => (0, (g.meant R.Wd (a.toNat / 8) false).2.1, (g.meant R.Wd (a.toNat / 8) false).2.2, 0)
    | some b => (R.Wd b (a.toNat % 8), (g.meant R.Wd (a.toNat / 8) false).2.1, (g.meant R.Wd (a.toNat / 8) false).2.2, 0)

theorem RG.meant_pg {g : RG} {Wd : Nat → Nat → Int} {p b : Nat} {st : Bool} (hp : p < 64) (hr : g.root < 64) (h : (g.meant Wd p st).1 = some b) : ∃ q, q < 64 ∧ g.P q = some b := by
  rcases g.turned_cases Wd hp st hr with ⟨q, hq, e⟩ | ⟨k, l, e, hk1, _⟩
  · rw [RG.meant, e, if_neg (by simp)] at h
    simp only [] at h
    cases hx : g.P q with
    | none => rw [hx] at h; cases h
    | some b' =>
      rw [hx] at h
      simp only [] at h
      split at h
      · cases h
      · injection h with h
        exact ⟨q, hq, by rw [hx, h]⟩
  · rw [RG.meant, e, if_pos (by show k ≠ 0; omega)] at h
    cases h

set_option maxRecDepth 100000 in
set_option maxHeartbeats 2000000 in
theorem rload_any (w : World) (rb : Nat) (R : RS) (h : Refm w rb R) (hb : ∀ g ∈ R.L, g.bdd R.Wd) (hr : ∀ g ∈ R.L, -1 ≤ g.root ∧ g.root < 64) (n a : Int) :
    Calls Tryz.prog 36 #[pt rb, .int .i64 n, .int .i64 a] w fun e w' => e = .returned (.tuple #[.int .i64 (R.loadAt n a).1, .agg #[.int .i64 (R.loadAt n a).2.1, .int .i64 (R.loadAt n a).2.2.1], .int .i64 (R.loadAt n a).2.2.2]) ∧ Only Nob w w' := by
  have o1 : Only Nob w (w.alloc (.cells #[.int .i64 0, .int .i64 0] 53)) := (Only.refl _ _).alloc _
  have hA := h.nob o1
  cases hf : findFrom R.L n with
  | none =>
    have HR : Hid (R.loadAt n a = (0, 0, 0, 4)) := by simp only [Hid, RS.loadAt, hf]
    have HF := hid hf
    clear hf
    go_enter Tryz.func36, Tryz.ntmps36
    go_wp2_with fail
    refine (rguest_any _ rb R hA n).mono ?_
    rintro e w1 ⟨rfl, rfl⟩
    rw [HF.out]
    simp only [Option.map_none, ptO_none]
    go_wp2
    refine bodyPost_ret (v := .tuple #[.int .i64 0, .agg #[.int .i64 0, .int .i64 0], .int .i64 4]) (by simp [results, Tryz.results36, go_sem]) rfl ⟨by rw [HR.out], o1⟩
  | some g =>
    obtain ⟨hg, _⟩ := findFrom_mem hf
    by_cases ha : a < 0 ∨ 512 ≤ a
    · have HR : Hid (R.loadAt n a = (0, 0, 0, 5)) := by simp only [Hid, RS.loadAt, hf, ha, if_true]
      have HF := hid hf
      clear hf
      rcases ha with ha | ha
      · go_enter Tryz.func36, Tryz.ntmps36
        go_wp2_with fail
        refine (rguest_any _ rb R hA n).mono ?_
        rintro e w1 ⟨rfl, rfl⟩
        rw [HF.out]
        simp only [Option.map_some, ptO_some]
        go_wp2
        refine bodyPost_ret (v := .tuple #[.int .i64 0, .agg #[.int .i64 0, .int .i64 0], .int .i64 5]) (by simp [results, Tryz.results36, go_sem]) rfl ⟨by rw [HR.out], o1⟩
      · have ha2 : ¬ a < 0 := by omega
        go_enter Tryz.func36, Tryz.ntmps36
        go_wp2_with fail
        refine (rguest_any _ rb R hA n).mono ?_
        rintro e w1 ⟨rfl, rfl⟩
        rw [HF.out]
        simp only [Option.map_some, ptO_some]
        go_wp2
        refine bodyPost_ret (v := .tuple #[.int .i64 0, .agg #[.int .i64 0, .int .i64 0], .int .i64 5]) (by simp [results, Tryz.results36, go_sem]) rfl ⟨by rw [HR.out], o1⟩
    · have h0 : 0 ≤ a := by omega
      have h1 : a < 512 := by omega
      have hmod := Int.tmod_eq_emod_of_nonneg h0 (b := 8)
      have hL : R.loadAt n a = match (g.meant R.Wd (a.toNat / 8) false).1 with
          | none => (0, (g.meant R.Wd (a.toNat / 8) false).2.1, (g.meant R.Wd (a.toNat / 8) false).2.2, 0)
          | some b => (R.Wd b (a.toNat % 8), (g.meant R.Wd (a.toNat / 8) false).2.1, (g.meant R.Wd (a.toNat / 8) false).2.2, 0) := by simp only [RS.loadAt, hf, ha, if_false]
      have hpg := fun b => RG.meant_pg (g := g) (Wd := R.Wd) (p := a.toNat / 8) (b := b) (st := false) (by omega) (hr g hg).2
      have HM := hid (rmeant_any _ rb R hA g hg (hb g hg) (hr g hg) a h0 h1 false)
      generalize g.meant R.Wd (a.toNat / 8) false = Y at *
      have HL := hid hL
      have HPG := hid hpg
      have HF := hid hf
      have HR0 := hid (row50 w 0 0)
      clear hf ha hL hpg
      go_enter Tryz.func36, Tryz.ntmps36
      go_wp2_with fail
      refine (rguest_any _ rb R hA n).mono ?_
      rintro e w1 ⟨rfl, rfl⟩
      rw [HF.out]
      simp only [Option.map_some, ptO_some]
      go_wp2_with fail
      refine HM.out.mono ?_
      rintro e w2 ⟨rfl, ho⟩
      have r7 := ho.row HR0.out (fun q => q)
      have d0 : w2.cell? ⟨w.heap.size, 0, none⟩ = some (.int .i64 0) := r7.cell (i := 0) (by omega)
      have d1 : w2.cell? ⟨w.heap.size, 1, none⟩ = some (.int .i64 0) := r7.cell (i := 1) (by omega)
      have d2 := r7.frozen 0
      have d3 := r7.frozen 1
      have d4 := r7.lt
      have HO := hid (o1.trans ho)
      have HAr := hid (hA.nob ho)
      clear r7
      obtain ⟨yo, k, l⟩ := Y
      cases yo with
      | none =>
        have HL : Hid (R.loadAt n a = (0, k, l, 0)) := HL.out
        simp only [ptO_none]
        go_wp2_with fail
        go_region
        all_goals
          go_wp2
          refine bodyPost_ret (v := .tuple #[.int .i64 0, .agg #[.int .i64 k, .int .i64 l], .int .i64 0]) (by simp [results, Tryz.results36, go_sem, d0, d1, d4]) rfl ⟨by rw [HL.out], ?_⟩
          exact ((only_set2 HO.out _ _).alloc _).drew
      | some b =>
        have HL : Hid (R.loadAt n a = (R.Wd b (a.toNat % 8), k, l, 0)) := HL.out
        obtain ⟨q, hq, hx⟩ := HPG.out b rfl
        obtain ⟨t, r⟩ := HAr.out.ps b ⟨g, hg, q, hq, hx⟩
        have hcw : w2.cell? ⟨b, 1 + (a % 8).toNat, none⟩ = some (.int .i64 (R.Wd b (a.toNat % 8))) := by
          rw [r.cell (by omega)]
          simp only [RS.pgCell]
          rw [if_neg (by omega), show 1 + (a % 8).toNat - 1 = a.toNat % 8 by omega]
        have hblt := r.lt
        have hbne : b ≠ w.heap.size := fun e => by
          have := h.own_lt (Or.inr (Or.inr (Or.inr ⟨g, hg, q, hq, hx⟩)))
          omega
        clear r hx
        simp only [ptO_some]
        go_wp2_with fail
        go_region
        all_goals
          go_wp2
          refine bodyPost_ret (v := .tuple #[.int .i64 (R.Wd b (a.toNat % 8)), .agg #[.int .i64 k, .int .i64 l], .int .i64 0]) (by simp [results, Tryz.results36, go_sem, d0, d1, d4]) rfl ⟨by rw [HL.out], ?_⟩
          exact ((only_set2 HO.out _ _).alloc _).drew
end Go.Proofs.YtfcepnhknmbaaaaGreat

/- The contract of the document's Store. -/
namespace Go.Proofs.YtfcepnhknmbaaaaGreat
open Go.RowKit Go.Deep

def RS.storeAt (R : RS) (n a v : Int) : Int × Int × Int := match findFrom R.L n with
  | none => (0, 0, 4)
  | some g => if a < 0 ∨ 512 ≤ a then (0, 0, 5) else if v < 0 ∨ 65535 < v then (0, 0, 9) else ((g.meant R.Wd (a.toNat / 8) true).2.1, (g.meant R.Wd (a.toNat / 8) true).2.2, 0)
/-- The page that a Store writes into. -/
def RS.storeTo (R : RS) (n a v : Int) : Option Nat := match findFrom R.L n with
  | none => none
  | some g => if a < 0 ∨ 512 ≤ a then none else if v < 0 ∨ 65535 < v then none else (g.meant R.Wd (a.toNat / 8) true).1
def RS.stored (R : RS) (o : Option Nat) (k : Nat) (v : Int) : RS := match o with | none => R | some b => R.wrote b k v

set_option maxRecDepth 100000 in
set_option maxHeartbeats 4000000 in
theorem rstore_any (w : World) (rb : Nat) (R : RS) (h : Refm w rb R) (hb : ∀ g ∈ R.L, g.bdd R.Wd) (hr : ∀ g ∈ R.L, -1 ≤ g.root ∧ g.root < 64) (n a v : Int) :
    Calls Tryz.prog 38 #[pt rb, .int .i64 n, .int .i64 a, .int .i64 v] w fun e w' => e = .returned (.tuple #[.agg #[.int .i64 (R.storeAt n a v).1, .int .i64 (R.storeAt n a v).2.1], .int .i64 (R.storeAt n a v).2.2]) ∧ Refm w' rb (R.stored (R.storeTo n a v) (a.toNat % 8) v) ∧ Only (R.own rb) w w' := by
  have o1 : Only Nob w (w.alloc (.cells #[.int .i64 0, .int .i64 0] 53)) := (Only.refl _ _).alloc _
  have hA := h.nob o1
  have bad : ∀ c, R.storeAt n a v = (0, 0, c) → R.storeTo n a v = none → Calls Tryz.prog 38 #[pt rb, .int .i64 n, .int .i64 a, .int .i64 v] w (fun e w' => e = .returned (.tuple #[.agg #[.int .i64 0, .int .i64 0], .int .i64 c]) ∧ Only Nob w w') →
      Calls Tryz.prog 38 #[pt rb, .int .i64 n, .int .i64 a, .int .i64 v] w fun e w' => e = .returned (.tuple #[.agg #[.int .i64 (R.storeAt n a v).1, .int .i64 (R.storeAt n a v).2.1], .int .i64 (R.storeAt n a v).2.2]) ∧ Refm w' rb (R.stored (R.storeTo n a v) (a.toNat % 8) v) ∧ Only (R.own rb) w w' := fun c e1 e2 hc => by
    refine hc.mono ?_
    rintro e w' ⟨rfl, ho⟩
    rw [e1, e2]
    exact ⟨rfl, h.nob ho, ho.of_nob⟩
  cases hf : findFrom R.L n with
  | none =>
    refine bad 4 (by simp only [RS.storeAt, hf]) (by simp only [RS.storeTo, hf]) ?_
    have HF := hid hf
    clear hf bad
    go_enter Tryz.func38, Tryz.ntmps38
    go_wp2_with fail
    refine (rguest_any _ rb R hA n).mono ?_
    rintro e w1 ⟨rfl, rfl⟩
    rw [HF.out]
    simp only [Option.map_none, ptO_none]
    go_wp2
    refine bodyPost_ret (v := .tuple #[.agg #[.int .i64 0, .int .i64 0], .int .i64 4]) (by simp [results, Tryz.results38, go_sem]) rfl ⟨rfl, o1⟩
  | some g =>
    obtain ⟨hg, _⟩ := findFrom_mem hf
    by_cases ha : a < 0 ∨ 512 ≤ a
    · refine bad 5 (by simp only [RS.storeAt, hf, ha, if_true]) (by simp only [RS.storeTo, hf, ha, if_true]) ?_
      have HF := hid hf
      clear hf bad
      rcases ha with ha | ha
      · go_enter Tryz.func38, Tryz.ntmps38
        go_wp2_with fail
        refine (rguest_any _ rb R hA n).mono ?_
        rintro e w1 ⟨rfl, rfl⟩
        rw [HF.out]
        simp only [Option.map_some, ptO_some]
        go_wp2
        refine bodyPost_ret (v := .tuple #[.agg #[.int .i64 0, .int .i64 0], .int .i64 5]) (by simp [results, Tryz.results38, go_sem]) rfl ⟨rfl, o1⟩
      · have ha2 : ¬ a < 0 := by omega
        go_enter Tryz.func38, Tryz.ntmps38
        go_wp2_with fail
        refine (rguest_any _ rb R hA n).mono ?_
        rintro e w1 ⟨rfl, rfl⟩
        rw [HF.out]
        simp only [Option.map_some, ptO_some]
        go_wp2
        refine bodyPost_ret (v := .tuple #[.agg #[.int .i64 0, .int .i64 0], .int .i64 5]) (by simp [results, Tryz.results38, go_sem]) rfl ⟨rfl, o1⟩
    · have h0 : 0 ≤ a := by omega
      have h1 : a < 512 := by omega
      by_cases hv : v < 0 ∨ 65535 < v
      · refine bad 9 (by simp only [RS.storeAt, hf, ha, hv, if_true, if_false]) (by simp only [RS.storeTo, hf, ha, hv, if_true, if_false]) ?_
        have HF := hid hf
        clear hf bad ha
        rcases hv with hv | hv
        · go_enter Tryz.func38, Tryz.ntmps38
          go_wp2_with fail
          refine (rguest_any _ rb R hA n).mono ?_
          rintro e w1 ⟨rfl, rfl⟩
          rw [HF.out]
          simp only [Option.map_some, ptO_some]
          go_wp2
          refine bodyPost_ret (v := .tuple #[.agg #[.int .i64 0, .int .i64 0], .int .i64 9]) (by simp [results, Tryz.results38, go_sem]) rfl ⟨rfl, o1⟩
        · have hv2 : ¬ v < 0 := by omega
          go_enter Tryz.func38, Tryz.ntmps38
          go_wp2_with fail
          refine (rguest_any _ rb R hA n).mono ?_
          rintro e w1 ⟨rfl, rfl⟩
          rw [HF.out]
          simp only [Option.map_some, ptO_some]
          go_wp2
          refine bodyPost_ret (v := .tuple #[.agg #[.int .i64 0, .int .i64 0], .int .i64 9]) (by simp [results, Tryz.results38, go_sem]) rfl ⟨rfl, o1⟩
      · have hv0 : 0 ≤ v := by omega
        have hv1 : v ≤ 65535 := by omega
        have hmod := Int.tmod_eq_emod_of_nonneg h0 (b := 8)
        have hS : R.storeAt n a v = ((g.meant R.Wd (a.toNat / 8) true).2.1, (g.meant R.Wd (a.toNat / 8) true).2.2, 0) := by simp only [RS.storeAt, hf, ha, hv, if_false]
        have hS2 : R.storeTo n a v = (g.meant R.Wd (a.toNat / 8) true).1 := by simp only [RS.storeTo, hf, ha, hv, if_false]
        have hpg := fun b => RG.meant_pg (g := g) (Wd := R.Wd) (p := a.toNat / 8) (b := b) (st := true) (by omega) (hr g hg).2
        have HM := hid (rmeant_any _ rb R hA g hg (hb g hg) (hr g hg) a h0 h1 true)
        generalize g.meant R.Wd (a.toNat / 8) true = Y at *
        have HS := hid hS
        have HS2 := hid hS2
        have HPG := hid hpg
        have HF := hid hf
        have HR0 := hid (row50 w 0 0)
        clear hf ha hv hS hS2 hpg bad
        go_enter Tryz.func38, Tryz.ntmps38
        go_wp2_with fail
        refine (rguest_any _ rb R hA n).mono ?_
        rintro e w1 ⟨rfl, rfl⟩
        rw [HF.out]
        simp only [Option.map_some, ptO_some]
        go_wp2_with fail
        refine HM.out.mono ?_
        rintro e w2 ⟨rfl, ho⟩
        have r7 := ho.row HR0.out (fun q => q)
        have d0 : w2.cell? ⟨w.heap.size, 0, none⟩ = some (.int .i64 0) := r7.cell (i := 0) (by omega)
        have d1 : w2.cell? ⟨w.heap.size, 1, none⟩ = some (.int .i64 0) := r7.cell (i := 1) (by omega)
        have d2 := r7.frozen 0
        have d3 := r7.frozen 1
        have d4 := r7.lt
        have HO := hid (o1.trans ho)
        have HAr := hid (hA.nob ho)
        clear r7
        obtain ⟨yo, k, l⟩ := Y
        cases yo with
        | none =>
          have HS : Hid (R.storeAt n a v = (k, l, 0)) := HS.out
          have HS2 : Hid (R.storeTo n a v = none) := HS2.out
          simp only [ptO_none]
          go_wp2_with fail
          refine bodyPost_ret (v := .tuple #[.agg #[.int .i64 k, .int .i64 l], .int .i64 0]) (by simp [results, Tryz.results38, go_sem, d0, d1, d4]) rfl ⟨by rw [HS.out], ?_, ?_⟩
          · rw [HS2.out]
            exact h.nob ((only_set2 HO.out _ _).alloc _)
          · exact ((only_set2 HO.out _ _).alloc _).of_nob
        | some b =>
          have HS : Hid (R.storeAt n a v = (k, l, 0)) := HS.out
          have HS2 : Hid (R.storeTo n a v = some b) := HS2.out
          obtain ⟨q, hq, hx⟩ := HPG.out b rfl
          have hpb : R.isPg b := ⟨g, hg, q, hq, hx⟩
          obtain ⟨t, r⟩ := HAr.out.ps b hpb
          have hcw : w2.cell? ⟨b, 1 + (a % 8).toNat, none⟩ = some (.int .i64 (R.Wd b (a.toNat % 8))) := by
            rw [r.cell (by omega)]
            simp only [RS.pgCell]
            rw [if_neg (by omega), show 1 + (a % 8).toNat - 1 = a.toNat % 8 by omega]
          have hfz := r.frozen (1 + (a % 8).toNat)
          have hblt := r.lt
          have hbw := h.own_lt (Or.inr (Or.inr (Or.inr hpb)))
          have hbne : b ≠ w.heap.size := by omega
          have HP := hid hpb
          clear r hx hpb
          simp only [ptO_some]
          go_wp2_with fail
          refine bodyPost_ret (v := .tuple #[.agg #[.int .i64 k, .int .i64 l], .int .i64 0]) (by simp [results, Tryz.results38, go_sem, d0, d1, d4]) rfl ⟨by rw [HS.out], ?_, ?_⟩
          · rw [HS2.out]
            have q1 := HAr.out.wrote (k := a.toNat % 8) (v := v) HP.out
            rw [show a.toNat % 8 = (a % 8).toNat by omega] at q1 ⊢
            refine (q1.only ((((Only.refl (One w.heap.size) _).setOne 0 (.int .i64 k)).setOne 1 (.int .i64 l)).alloc _) (fun x hx e => ?_))
            have := h.own_lt (b := x) hx
            have e : x = w.heap.size := e
            omega
          · refine (((((HO.out.of_nob (S := R.own rb)).setCell (p := ⟨b, 1 + (a % 8).toNat, none⟩) (fun _ => Or.inr (Or.inr (Or.inr HP.out))) _).setCell (p := ⟨w.heap.size, 0, none⟩) (fun q => absurd q (by show ¬ w.heap.size < w.heap.size; omega)) _).setCell (p := ⟨w.heap.size, 1, none⟩) (fun q => absurd q (by show ¬ w.heap.size < w.heap.size; omega)) _).alloc _)
end Go.Proofs.YtfcepnhknmbaaaaGreat
