/- The law Apart: its body. -/
import Derived.Test.YtfcepnhknmbaaaaApartDone
namespace Go.Proofs.Ytfcepnhknmbaaaa
open Go.RowKit Go.Deep

/-- A step as data. -/
structure StD where
  k : Int
  g : Int
  a : Int
  b : Int
  W : Bool

structure StAt (w : World) (bb oo : Nat) (o : StD) : Prop where
  c0 : w.cell? ⟨bb, oo, none⟩ = some (.int .i64 o.k)
  c1 : w.cell? ⟨bb, oo + 1, none⟩ = some (.int .i64 o.g)
  c2 : w.cell? ⟨bb, oo + 2, none⟩ = some (.int .i64 o.a)
  c3 : w.cell? ⟨bb, oo + 3, none⟩ = some (.int .i64 o.b)
  c4 : w.cell? ⟨bb, oo + 4, none⟩ = some (.bool o.W)
  g64 : In64 o.g
  a64 : In64 o.a
  b64 : In64 o.b

theorem StAt.only {w w' : World} {T : Nat → Prop} {bb oo : Nat} {o : StD} (h : StAt w bb oo o) (q : Only T w w') (hb : ¬ T bb) : StAt w' bb oo o :=
  ⟨q.keep hb h.c0, q.keep hb h.c1, q.keep hb h.c2, q.keep hb h.c3, q.keep hb h.c4, h.g64, h.a64, h.b64⟩

/-- What the walk is told of the script. -/
def StScript (w : World) (sa : Option Addr) (len : Nat) : Prop := len ≤ 10000000000000 ∧ ∃ O : Nat → StD, ∀ j, j < len → ∃ bb oo, sa = some ⟨bb, oo, none⟩ ∧ StAt w bb (oo + j * 5) (O j)

theorem ap_lt {n : Nat} (h : n ≤ 100000000000000) : n + 3 < maxLen := by unfold maxLen; omega

set_option maxRecDepth 100000 in
set_option maxHeartbeats 4000000 in
theorem apart_walk (w : World) (sa : Option Addr) (len cap : Nat) (v : Int) (hv : In64 v) (h : StScript w sa len) :
    Calls Try.prog 5 #[.slice sa len cap, .int .i64 v] w fun e w' => e = .returned (.bool true) ∧ Below w.heap.size w w' := by
  obtain ⟨hl, O, hO⟩ := h
  have HS := hid hO
  clear hO
  go_enter Try.func5, Try.ntmps5
  go_wp2_with fail
  refine (machine_any _ 64 3 (by omega) (by omega) (by omega) (by omega) (by omega)).mono ?_
  rintro e w1 ⟨ma, A, rfl, hR1, hI1⟩
  have HR1 := hid hR1
  have HI1 := hid hI1
  clear hR1 hI1
  go_wp2_with fail
  refine (machine_any _ 64 3 (by omega) (by omega) (by omega) (by omega) (by omega)).mono ?_
  rintro e w2 ⟨mo, B, rfl, hR2, hI2⟩
  have hp := pickI_bd v 3 (by omega)
  have HB0 := hid (Both.start HR1.out HI1.out hR2 hI2 (1 + pickI v 3))
  clear hR2 hI2 HR1 HI1
  go_wp2_with fail
  refine (pick_any _ v 3 hv.1 hv.2 (by omega) (by omega)).mono ?_
  rintro e w3 ⟨rfl, rfl⟩
  generalize pickI v 3 = u at *
  have hu : In64 (1 + u) := ⟨by omega, by omega⟩
  go_wp2_with fail
  go_loopw [7] (fun s7 wr => ∃ i : Nat, i ≤ len ∧ s7 = .int .i64 i ∧ Both w wr ma mo (10 + 3 * i) (1 + u)) (fun s7 _ => len - (intOf s7).toNat)
  case atStart => exact ⟨0, by omega, rfl, HB0.out⟩
  case round =>
    clear HB0
    rename World => wr
    obtain ⟨i, hi, rfl, hB⟩ := hrel
    by_cases hlt : i < len
    · obtain ⟨bb, oo, rfl, hO⟩ := HS.out i hlt
      have hOw := hO
      have hO := hO.only hB.b (fun q => q)
      have HB := hid hB
      clear hB
      have HOW := hid hOw
      clear hOw
      have hi2 : (i : Int) < (len : Int) := by omega
      generalize O i = o at *
      obtain ⟨c0, c1, c2, c3, c4, g64, a64, b64⟩ := hO
      have hq := pickI_bd o.g 3 (by omega)
      go_wp2_with fail
      refine (pick_any _ o.g 3 g64.1 g64.2 (by omega) (by omega)).mono ?_
      rintro e w3 ⟨rfl, rfl⟩
      generalize pickI o.g 3 = t at *
      have ht : In64 (1 + t) := ⟨by omega, by omega⟩
      by_cases hne : t = u
      · subst hne
        go_wp2_with fail
        refine (HB.out.first o.k o.g o.a o.b o.W a64 b64 ht (by omega) (by omega) (ap_lt (by omega))).mono ?_
        rintro e w4 ⟨x, y, z, rfl, hb4, hnext⟩
        have HN := hid hnext
        clear hnext
        obtain ⟨d0, d1, d2, d3, d4, _, _, _⟩ := HOW.out.only hb4 (fun q => q)
        go_wp2_with fail
        refine (HN.out _ (Only.refl Nob _)).mono ?_
        rintro e w5 ⟨rfl, hB5⟩
        have HB5 := hid hB5
        clear hB5
        go_wp2
        go_roundw
        case rel => exact ⟨i + 1, by omega, by go_num, HB5.out⟩
        case measure => simp [intOf]; omega
      · have hne2 : 1 + t ≠ 1 + u := by omega
        have hne3 : 1 + u ≠ 1 + t := by omega
        go_wp2_with fail
        refine (HB.out.other o.k o.g o.a o.b (1 + t) o.W a64 b64 ht (ap_lt (by omega)) hne3).mono ?_
        rintro e w4 ⟨x, y, z, rfl, hB5⟩
        have HB5 := hid hB5
        clear hB5
        go_wp2
        go_roundw
        case rel => exact ⟨i + 1, by omega, by go_num, HB5.out⟩
        case measure => simp [intOf]; omega
    · have HB := hid hB
      clear hB
      have hi2 : ¬ (i : Int) < (len : Int) := by omega
      go_wp2
      go_loopw [15] (fun s wx => ∃ k : Nat, k ≤ 512 ∧ s = .int .i64 k ∧ Both w wx ma mo (10 + 3 * i + 3 * k) (1 + u)) (fun s _ => 512 - (intOf s).toNat)
      case atStart => exact ⟨0, by omega, rfl, HB.out⟩
      case round =>
        clear HB
        rename World => wx
        obtain ⟨k, hk, rfl, hB⟩ := hrel
        have HB := hid hB
        clear hB
        by_cases hlt2 : k < 512
        · have hk2 : (k : Int) < 512 := by omega
          go_wp2_with fail
          refine (HB.out.read k hk2 hu (ap_lt (by omega))).mono ?_
          rintro e w4 ⟨x, z, rfl, hnext⟩
          have HN := hid hnext
          clear hnext
          go_wp2_with fail
          refine (HN.out _ (Only.refl Nob _)).mono ?_
          rintro e w5 ⟨rfl, hB5⟩
          have HB5 := hid hB5
          clear hB5
          go_wp2
          go_roundw
          case rel => exact ⟨k + 1, by omega, by go_num, HB5.out⟩
          case measure => simp [intOf]; omega
        · have hk2 : ¬ (k : Int) < 512 := by omega
          go_wp2
          go_ret
          exact ⟨rfl, HB.out.b.below (fun _ _ q => q)⟩
end Go.Proofs.Ytfcepnhknmbaaaa
