/- The contract of Destroy. -/
import Derived.Test.YtfcepnhknmbaaaaMachWalks
namespace Go.Proofs.Ytfcepnhknmbaaaa
open Go.RowKit Go.Deep
open Go.Maps (Keyed)

def MS.destroyed (S : MS) (g : Int) (r : Nat) : MS :=
  { S with M := (S.M.ended r).unuse r, G := fun j => if j = g then none else S.G j, cnt := S.cnt - 1, K := fun i => if i.1 = g ∧ 0 ≤ i.2 ∧ i.2 < 64 then none else S.K i }

theorem put_gst_none (S : MS) (g : Int) : put S.gst g none = fun j => (if j = g then none else S.G j).map (fun r => rsd S.mp r (S.Rt j)) := by
  funext j
  simp only [put, MS.gst]
  split <;> rfl

theorem dropTo_kept (S : MS) (g : Int) (n : Nat) : dropTo S.kept (fun j => (g, (j : Int))) n = fun (i : Int × Int) => (if i.1 = g ∧ 0 ≤ i.2 ∧ i.2 < (n : Int) then none else S.K i).map (fun x => Value.int .u16 x) := by
  induction n with
  | zero =>
    funext i
    have e : ¬ (i.1 = g ∧ 0 ≤ i.2 ∧ i.2 < ((0 : Nat) : Int)) := by omega
    simp only [dropTo, MS.kept, if_neg e]
  | succ n ih =>
    funext i
    simp only [dropTo, put, ih]
    by_cases e : i = (g, (n : Int))
    · have e2 : i.1 = g ∧ 0 ≤ i.2 ∧ i.2 < ((n + 1 : Nat) : Int) := by rw [e]; exact ⟨rfl, by simp, by simp; omega⟩
      rw [if_pos e, if_pos e2]
      rfl
    · rw [if_neg e]
      have e2 : (i.1 = g ∧ 0 ≤ i.2 ∧ i.2 < ((n + 1 : Nat) : Int)) ↔ (i.1 = g ∧ 0 ≤ i.2 ∧ i.2 < (n : Int)) := by
        constructor
        · rintro ⟨a, b, c⟩
          refine ⟨a, b, ?_⟩
          have : i.2 ≠ n := fun h => e (Prod.ext a h)
          omega
        · rintro ⟨a, b, c⟩
          exact ⟨a, b, by omega⟩
      simp only [e2]

theorem Mach.kb_ne {w : World} {mb : Nat} {S : MS} (h : Mach w mb S) {b : Nat} (hb : w.heap.size ≤ b) : S.kb ≠ some b := by
  intro e
  have := h.own_lt (Or.inr (Or.inr (Or.inr (Or.inr e))))
  omega

theorem places_in {g : Int} (hg : In64 g) (j : Nat) (hj : j < 64) : In64 (g, (j : Int)).1 ∧ In64 (g, (j : Int)).2 := ⟨hg, ⟨by show _ ≤ (j : Int); omega, by show (j : Int) ≤ _; omega⟩⟩

set_option maxHeartbeats 400000 in
theorem destroyNone_any (w : World) (mb : Nat) (S : MS) (h : Mach w mb S) (g : Int) (hg : In64 g) (hG : S.G g = none) :
    Calls Try.prog 16 #[pt mb, .int .i64 g] w fun e w' => e = .returned (.int .i64 4) ∧ Only Nob w w' := by
  have hc := h.c1
  have hrun := h.gst.look_ok (i := g) law3 Try.underlying78 (zero77 w) (key3 hg)
  simp only [MS.gst, hG, Option.map_none, Option.getD_none, Option.isSome_none] at hrun
  go_enter Try.func16, Try.ntmps16
  go_wp2
  go_ret
  exact ⟨rfl, (Only.refl _ _).alloc _⟩

set_option maxRecDepth 100000 in
set_option maxHeartbeats 1000000 in
theorem destroySome_any (w : World) (mb : Nat) (S : MS) (h : Mach w mb S) (g : Int) (r : Nat) (hg : In64 g) (hG : S.G g = some r) (hr : r < S.M.n)
  (hS : ∀ k, k < 64 → Sound (S.M.endTo r k) r k) (hU : 1 ≤ (S.M.ended r).U r) :
    Calls Try.prog 16 #[pt mb, .int .i64 g] w fun e w' => e = .returned (.int .i64 0) ∧ Mach w' mb (S.destroyed g r) ∧ Only (S.own mb) w w' := by
  have hc := h.c1
  have hrun := h.gst.look_ok (i := g) law3 Try.underlying78 (zero77 w) (key3 hg)
  simp only [MS.gst, hG, Option.map_some, Option.getD_some, Option.isSome_some] at hrun
  have hfld := fun w => fld0 w S.mp r (S.Rt g)
  have hgs : S.gst g = some (rsd S.mp r (S.Rt g)) := by simp [MS.gst, hG]
  have HG := hid hgs
  have hA := h.nob ((Only.refl Nob w).alloc (.cells #[pt S.mp, .int .i64 r, .int .i64 (S.Rt g)] 77))
  have hO := ((Only.refl (S.own mb) w).alloc (.cells #[pt S.mp, .int .i64 r, .int .i64 (S.Rt g)] 77))
  clear hG hgs
  go_enter Try.func16, Try.ntmps16
  go_wp2_with fail
  refine (end_any (M := S.M) _ r hA.mem hr hS hU).mono ?_
  rintro e w1 ⟨rfl, hM1, ho1⟩
  have hB := hA.turnM hM1 ho1
  have hO1 := hO.after ho1 (fun b _ hb => Or.inr (Or.inr (Or.inl hb)))
  have b1 : w1.cell? ⟨mb, 1, none⟩ = some (.map (some S.gb)) := hB.c1
  have hgm : MapIs Try.prog 3 kvG w1 S.gb S.cnt S.cnt S.gst := hB.gst
  obtain ⟨w2, hdel, hm2, ho2⟩ := hgm.drop (i := g) law3 Try.underlying78 kvG_inj (key3 hg) 0
  rw [HG.out, put_gst_none] at hm2
  have hC := hB.turnG (G' := fun j => if j = g then none else S.G j) (c' := S.cnt - 1) (Rt' := S.Rt) hm2.tight ho2
  have hO2 := hO1.after ho2 (fun b _ hb => Or.inr (Or.inr (Or.inr (Or.inl hb))))
  have b3 : w2.cell? ⟨mb, 3, none⟩ = some (.map S.kb) := hC.c3
  clear hrun hgm hm2
  go_wp2_with fail
  go_cut [] (fun wx => Mach wx mb (S.destroyed g r) ∧ Only (S.own mb) w wx)
  case first =>
    go_region_with (first
      | (go_at_call 42; refine (placesOf_any _ g).mono ?_; rintro e w3 ⟨sb, hsb, rfl, hpl, ho3⟩; have hD := hC.nob (((Only.refl Nob w2).drew).trans ho3); have hsk : S.kb ≠ some sb := hC.kb_ne hsb; have d3 : w3.cell? ⟨mb, 3, none⟩ = some (.map S.kb) := hD.c3)
      | (go_at_call 36; refine (drop_any _ mb 3 sb 64 64 S.kb S.kn S.kept (fun j => (g, (j : Int))) (places_in hg) d3 hD.kpt hD.n4 hsk (Nat.le_refl _) hpl).mono ?_; rintro e w4 ⟨rfl, hk4, ho4⟩))
    all_goals
      go_wp2_with fail
      go_meet
      case rel =>
        rw [dropTo_kept] at hk4
        refine ⟨hD.turnK (K' := fun i => if i.1 = g ∧ 0 ≤ i.2 ∧ i.2 < 64 then none else S.K i) (n' := S.kn) hk4 hD.kz ho4, ?_⟩
        exact (hO2.drew.after ho3 (fun _ _ h => h.elim)).after ho4 (fun b _ hb => Or.inr (Or.inr (Or.inr (Or.inr hb))))
  case rest =>
    obtain ⟨hE, hOE⟩ := hcut
    go_wp2
    go_ret
    exact ⟨rfl, hE, hOE⟩
end Go.Proofs.Ytfcepnhknmbaaaa
