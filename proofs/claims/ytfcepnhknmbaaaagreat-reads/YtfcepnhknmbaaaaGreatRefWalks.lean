/- The contracts of the document's machine: takes, tables, Free. -/
import Derived.Test.YtfcepnhknmbaaaaGreatRefBase
namespace Go.Proofs.YtfcepnhknmbaaaaGreat
open Go.RowKit Go.Deep

def anyTo (g : RG) (k : Nat) : Nat → Bool
  | 0 => false
  | i + 1 => anyTo g k i || (g.P (8 * k + i)).isSome
def RG.grp (g : RG) (k : Nat) : Bool := anyTo g k 8
def rtabs (g : RG) : Nat → Nat
  | 0 => 0
  | k + 1 => rtabs g k + if g.grp k then 1 else 0
def RG.takes (g : RG) (k : Nat) : Nat := if g.grp k then 0 else 1
def RG.tabs (g : RG) : Nat := 1 + rtabs g 8

theorem rtabs_le (g : RG) (k : Nat) : rtabs g k ≤ k := by
  induction k with
  | zero => exact Nat.le_refl _
  | succ k ih => simp only [rtabs]; split <;> omega
theorem anyTo_true {g : RG} {k i : Nat} (h : (g.P (8 * k + i)).isSome = true) : ∀ j, i < j → anyTo g k j = true
  | 0, hj => by omega
  | j + 1, hj => by
    simp only [anyTo]
    by_cases e : i = j
    · subst e; simp [h]
    · rw [anyTo_true h j (by omega)]; rfl

set_option maxHeartbeats 1000000 in
theorem rtakes_any (w : World) (rb : Nat) (R : RS) (h : Refm w rb R) (g : RG) (hg : g ∈ R.L) (p : Int) (h0 : 0 ≤ p) (h1 : p < 64) :
    Calls Tryz.prog 60 #[pt g.gb, .int .i64 p] w fun e w' => e = .returned (.int .i64 (g.takes (p.toNat / 8))) ∧ w = w' := by
  go_enter Tryz.func60, Tryz.ntmps60
  go_wp2
  go_loop [6] (fun c => ∃ i : Nat, i ≤ 8 ∧ c = .int .i64 (p / 8 * 8 + i) ∧ anyTo g (p.toNat / 8) i = false) (fun c => (p / 8 * 8 + 8 - intOf c).toNat)
  case atStart => exact ⟨0, by omega, by go_num, rfl⟩
  case round =>
    obtain ⟨i, hi, rfl, ha⟩ := hrel
    by_cases hlt : i < 8
    · have hcp := (h.gpage hg (p := 8 * (p.toNat / 8) + i) (by omega)).1
      rw [show 2 + (8 * (p.toNat / 8) + i) * 2 = 2 + (p / 8 * 8 + (i : Int)).toNat * 2 by omega] at hcp
      cases hx : g.P (8 * (p.toNat / 8) + i) with
      | none =>
        rw [hx, ptO_none] at hcp
        have HS : Hid (anyTo g (p.toNat / 8) (i + 1) = false) := by simp only [Hid, anyTo, ha, hx]; rfl
        clear hx ha
        go_wp2
        go_round
        case rel => exact ⟨i + 1, by omega, by go_num, HS.out⟩
        case measure => simp [intOf]; omega
      | some b =>
        rw [hx, ptO_some] at hcp
        have HS : Hid (g.takes (p.toNat / 8) = 0) := by
          have : g.grp (p.toNat / 8) = true := anyTo_true (i := i) (by rw [hx]; rfl) 8 hlt
          simp only [Hid, RG.takes, this]; rfl
        clear hx ha
        go_wp2
        go_ret
        exact ⟨by rw [HS.out]; rfl, rfl⟩
    · have ei : i = 8 := by omega
      have HS : Hid (g.takes (p.toNat / 8) = 1) := by
        rw [ei] at ha
        have : g.grp (p.toNat / 8) = false := ha
        simp only [Hid, RG.takes, this]; rfl
      clear ha ei
      go_wp2
      go_ret
      exact ⟨by rw [HS.out]; rfl, rfl⟩

set_option maxHeartbeats 1000000 in
theorem rtablesG_any (w : World) (g : RG) (hgp : ∀ p, p < 64 → w.cell? ⟨g.gb, 2 + p * 2, none⟩ = some (ptO (g.P p))) :
    Calls Tryz.prog 47 #[pt g.gb] w fun e w' => e = .returned (.int .i64 g.tabs) ∧ w = w' := by
  have HGP := hid hgp
  clear hgp
  go_enter Tryz.func47, Tryz.ntmps47
  go_wp2
  go_loop [3, 4] (fun s3 s4 => ∃ k : Nat, k ≤ 8 ∧ s4 = .int .i64 (8 * k : Nat) ∧ s3 = .int .i64 (1 + rtabs g k : Nat)) (fun _ s4 => (64 - intOf s4).toNat)
  case atStart => exact ⟨0, by omega, rfl, rfl⟩
  case round =>
    obtain ⟨k, hk, rfl, rfl⟩ := hrel
    have hrl := rtabs_le g k
    by_cases hlt : k < 8
    · go_wp2
      go_loop [5, 6] (fun s5 s6 => ∃ i : Nat, i ≤ 8 ∧ s6 = .int .i64 (8 * k + i : Nat) ∧ s5 = .bool (anyTo g k i)) (fun _ s6 => (8 * k + 8 - intOf s6).toNat)
      case atStart => exact ⟨0, by omega, rfl, rfl⟩
      case round =>
        obtain ⟨i, hi, rfl, rfl⟩ := hrel
        by_cases hlt2 : i < 8
        · have hcp := HGP.out (8 * k + i) (by omega)
          cases ha : anyTo g k i with
          | true =>
            have HS : Hid (anyTo g k (i + 1) = true) := by simp only [Hid, anyTo, ha]; rfl
            clear ha hcp
            go_wp2
            go_round
            case rel => exact ⟨i + 1, by omega, by go_num, by rw [HS.out]⟩
            case measure => simp [intOf]; omega
          | false =>
            cases hx : g.P (8 * k + i) with
            | none =>
              rw [hx, ptO_none] at hcp
              have HS : Hid (anyTo g k (i + 1) = false) := by simp only [Hid, anyTo, ha, hx]; rfl
              clear hx ha
              go_wp2
              go_round
              case rel => exact ⟨i + 1, by omega, by go_num, by rw [HS.out]⟩
              case measure => simp [intOf]; omega
            | some b =>
              rw [hx, ptO_some] at hcp
              have HS : Hid (anyTo g k (i + 1) = true) := by simp only [Hid, anyTo, ha, hx]; rfl
              clear hx ha
              go_wp2
              go_round
              case rel => exact ⟨i + 1, by omega, by go_num, by rw [HS.out]⟩
              case measure => simp [intOf]; omega
        · have ei : i = 8 := by omega
          subst ei
          cases ha : anyTo g k 8 with
          | true =>
            have HS : Hid (rtabs g (k + 1) = rtabs g k + 1) := by simp only [Hid, rtabs, RG.grp, ha]; rfl
            clear ha
            go_wp2
            go_round
            case rel => exact ⟨k + 1, by omega, by go_num, by rw [HS.out]; go_num⟩
            case measure => simp [intOf]; omega
          | false =>
            have HS : Hid (rtabs g (k + 1) = rtabs g k) := by simp only [Hid, rtabs, RG.grp, ha]; rfl
            clear ha
            go_wp2
            go_round
            case rel => exact ⟨k + 1, by omega, by go_num, by rw [HS.out]; go_num⟩
            case measure => simp [intOf]; omega
    · have ek : k = 8 := by omega
      subst ek
      go_wp2
      go_ret
      exact ⟨rfl, rfl⟩
theorem rtables_any (w : World) (rb : Nat) (R : RS) (h : Refm w rb R) (g : RG) (hg : g ∈ R.L) :
    Calls Tryz.prog 47 #[pt g.gb] w fun e w' => e = .returned (.int .i64 g.tabs) ∧ w = w' := rtablesG_any w g (fun _ hp => (h.gpage hg hp).1)
end Go.Proofs.YtfcepnhknmbaaaaGreat
