/- The contracts of the document's New, Read, Write, Unmap. -/
import Derived.Test.YtelilndinnemcaaRefFree
namespace Go.Proofs.Ytelilndinnemcaa
open Go.RowKit Go.Deep

theorem findFrom_mem {L : List RG} {n : Int} {g : RG} (h : findFrom L n = some g) : g ∈ L ∧ g.N = n := by
  have h1 := List.mem_of_find?_eq_some h
  have h2 := List.find?_some h
  exact ⟨h1, by simpa using h2⟩

/-! New. -/
def RS.fresh (n : Nat) : RS := ⟨n, 0, 0, .slice none 0 0, [], fun _ => 0, fun _ _ => 0⟩

set_option maxHeartbeats 400000 in
theorem rnewBad_any (w : World) (n : Int) (hn : n < 4 ∨ 64 < n) :
    Calls Try.prog 70 #[.int .i64 n] w fun e w' => e = .returned (.tuple #[.pointer none, .int .i64 1]) ∧ w = w' := by
  rcases hn with h | h
  · go_enter Try.func70, Try.ntmps70
    go_wp2
    go_ret2
    exact ⟨rfl, rfl⟩
  · have h2 : ¬ n < 4 := by omega
    go_enter Try.func70, Try.ntmps70
    go_wp2
    go_ret2
    exact ⟨rfl, rfl⟩

set_option maxHeartbeats 400000 in
theorem rnewGood_any (w : World) (n : Int) (h4 : 4 ≤ n) (h64 : n ≤ 64) :
    Calls Try.prog 70 #[.int .i64 n] w fun e w' => e = .returned (.tuple #[pt w.heap.size, .int .i64 0]) ∧ Refm w' w.heap.size (RS.fresh n.toNat) ∧ Only Nob w w' := by
  have h1 : ¬ n < 4 := by omega
  have h2 : ¬ 64 < n := by omega
  go_enter Try.func70, Try.ntmps70
  go_wp2
  go_ret2
  refine ⟨rfl, ?_, (Only.refl _ _).alloc _⟩
  have r := World.rowIs_alloc w #[.int .i64 n, .slice none 0 0, .int .i64 0, .int .i64 0] 128 (RS.fresh n.toNat).cell (fun i hi => by
    have hi : i < 4 := hi
    have e : i = 0 ∨ i = 1 ∨ i = 2 ∨ i = 3 := by omega
    rcases e with e | e | e | e <;> subst e
    · show some (Value.int .i64 n) = some (Value.int .i64 ((n.toNat : Nat) : Int))
      rw [Int.toNat_of_nonneg (by omega)]
    · rfl
    · rfl
    · rfl)
  refine ⟨⟨128, r⟩, World.ownsRow_nil _ _ _ _, fun g hg => (by cases hg), fun b ⟨g, hg, _⟩ => (by cases hg), (by simp [RS.fresh, Value.ownBlock]), fun ⟨g, hg, _⟩ => (by cases hg), fun ⟨g, hg, _⟩ => (by cases hg), fun b hb => (by simp [RS.fresh, Value.ownBlock] at hb), fun b ⟨g, hg, _⟩ => (by cases hg), List.nodup_nil, by simp [RS.fresh]⟩

/-! Read. -/
def RS.readAt (R : RS) (n a : Int) : Int × Int :=
  match findFrom R.L n with
  | none => (0, 4)
  | some g => if a < 0 ∨ 512 ≤ a then (0, 5) else match g.P (a.toNat / 8) with
    | none => (0, 7)
    | some b => (R.Wd b (a.toNat % 8), 0)

set_option maxHeartbeats 1000000 in
theorem rread_any (w : World) (rb : Nat) (R : RS) (h : Refm w rb R) (n a : Int) :
    Calls Try.prog 76 #[pt rb, .int .i64 n, .int .i64 a] w fun e w' => e = .returned (.tuple #[.int .i64 (R.readAt n a).1, .int .i64 (R.readAt n a).2]) ∧ w = w' := by
  cases hf : findFrom R.L n with
  | none =>
    have HR : Hid (R.readAt n a = (0, 4)) := by simp only [Hid, RS.readAt, hf]
    have HF := hid hf
    clear hf
    go_enter Try.func76, Try.ntmps76
    go_wp2_with fail
    refine (rguest_any _ rb R h n).mono ?_
    rintro e w1 ⟨rfl, rfl⟩
    rw [HF.out]
    show _
    simp only [Option.map_none, ptO_none]
    go_wp2
    go_ret2
    exact ⟨by rw [HR.out]; rfl, rfl⟩
  | some g =>
    obtain ⟨hg, _⟩ := findFrom_mem hf
    by_cases ha : a < 0 ∨ 512 ≤ a
    · have HR : Hid (R.readAt n a = (0, 5)) := by simp only [Hid, RS.readAt, hf, ha, if_true]
      have HF := hid hf
      clear hf
      rcases ha with ha | ha
      · go_enter Try.func76, Try.ntmps76
        go_wp2_with fail
        refine (rguest_any _ rb R h n).mono ?_
        rintro e w1 ⟨rfl, rfl⟩
        rw [HF.out]
        simp only [Option.map_some, ptO_some]
        go_wp2
        go_ret2
        exact ⟨by rw [HR.out]; rfl, rfl⟩
      · have ha2 : ¬ a < 0 := by omega
        go_enter Try.func76, Try.ntmps76
        go_wp2_with fail
        refine (rguest_any _ rb R h n).mono ?_
        rintro e w1 ⟨rfl, rfl⟩
        rw [HF.out]
        simp only [Option.map_some, ptO_some]
        go_wp2
        go_ret2
        exact ⟨by rw [HR.out]; rfl, rfl⟩
    · have h0 : 0 ≤ a := by omega
      have h1 : a < 512 := by omega
      have hcp := (h.gpage hg (p := a.toNat / 8) (by omega)).1
      rw [show 2 + a.toNat / 8 * 2 = 2 + (a / 8).toNat * 2 by omega] at hcp
      cases hx : g.P (a.toNat / 8) with
      | none =>
        rw [hx, ptO_none] at hcp
        have HR : Hid (R.readAt n a = (0, 7)) := by simp only [Hid, RS.readAt, hf, ha, if_false, hx]
        have HF := hid hf
        clear hf ha hx
        go_enter Try.func76, Try.ntmps76
        go_wp2_with fail
        refine (rguest_any _ rb R h n).mono ?_
        rintro e w1 ⟨rfl, rfl⟩
        rw [HF.out]
        simp only [Option.map_some, ptO_some]
        go_wp2
        go_ret2
        exact ⟨by rw [HR.out]; rfl, rfl⟩
      | some b =>
        rw [hx, ptO_some] at hcp
        obtain ⟨t, r⟩ := h.ps b ⟨g, hg, a.toNat / 8, by omega, hx⟩
        have hcw : w.cell? ⟨b, 1 + (a % 8).toNat, none⟩ = some (.int .i64 (R.Wd b (a.toNat % 8))) := by
          rw [r.cell (by omega)]
          simp only [RS.pgCell]
          rw [if_neg (by omega), show 1 + (a % 8).toNat - 1 = a.toNat % 8 by omega]
        have HR : Hid (R.readAt n a = (R.Wd b (a.toNat % 8), 0)) := by simp only [Hid, RS.readAt, hf, ha, if_false, hx]
        have HF := hid hf
        clear hf ha hx r
        go_enter Try.func76, Try.ntmps76
        go_wp2_with fail
        refine (rguest_any _ rb R h n).mono ?_
        rintro e w1 ⟨rfl, rfl⟩
        rw [HF.out]
        simp only [Option.map_some, ptO_some]
        go_wp2
        go_ret2
        exact ⟨by rw [HR.out]; rfl, rfl⟩
end Go.Proofs.Ytelilndinnemcaa
