/- Proved: the Go function Older of package cradlekeep returns true for every two lists of ints and every three ints, and leaves its arguments as they were; no condition. -/
import Derived.Test.YtfcepnhknmbaaaaRows
import Derived.WalkKit
import Derived.ProofKit
import Derived.OpenShut
import Derived.ShutString
import Derived.ChangeOld
import Derived.Below
import Derived.Test.YtfcepnhknmbaaaaOlderOneA
import Derived.Test.YtfcepnhknmbaaaaOlderOneB
import Derived.Test.YtfcepnhknmbaaaaOlderTwoAZ
import Derived.Test.YtfcepnhknmbaaaaOlderTwoAP
import Derived.Test.YtfcepnhknmbaaaaOlderTwoBZ
import Derived.Test.YtfcepnhknmbaaaaOlderTwoBP
namespace Go.Proofs.Ytfcepnhknmbaaaa
open Go.ChangeShapes Go.WideShapes Go.ChangeAt Go.RowKit
open Go.ChangeMaps (open_string shut_string)
set_option linter.unusedVariables false

theorem older_own : ownKnob Try.prog.godebug = none := by kernel_rfl

/-- A list of ints that came in: nil, or a row of numbers that fit. -/
def OldRow (k : IntKind) (w : World) (a : Option Addr) (len cap : Nat) (zs : List Int) : Prop :=
  (a = none ∧ len = 0 ∧ cap = 0 ∧ zs = []) ∨
  ∃ x, a = some x ∧ len ≤ cap ∧ cap ≤ maxLen ∧ zs.length = cap ∧ (∀ i, i < zs.length → w.cell? (x.add i) = some (.int k (zs.getD i 0))) ∧ ∀ n ∈ zs, (Lit.int k n).wf = true

theorem OldRow.ints {w : World} {a : Option Addr} {len cap : Nat} {zs : List Int} (h : OldRow .i64 w a len cap zs) : IntRow w a len (fun k => zs.getD k 0) := by
  rcases h with ⟨rfl, rfl, rfl, rfl⟩ | ⟨x, rfl, hl, hm, hz, hcell, hwf⟩
  · exact ⟨Nat.zero_le _, fun k hk => by omega⟩
  · refine ⟨Nat.le_trans hl hm, fun k hk => ?_⟩
    have hk2 : k < zs.length := by omega
    obtain ⟨bb, oo, rfl, hc⟩ := ints_at hcell (by omega)
    refine ⟨bb, oo, rfl, hc k hk2, bounds_i64 (hwf _ ?_)⟩
    show zs.getD k 0 ∈ zs
    rw [List.getD_eq_getElem?_getD, List.getElem?_eq_getElem hk2]
    exact List.getElem_mem hk2

theorem older_true (a0 : Option Addr) (len0 cap0 : Nat) (z0 : List Int) (b0 : Option Addr) (len1 cap1 : Nat) (z1 : List Int) (a2 a3 a4 : Int) (w : World) (w0 : OldRow .i64 w a0 len0 cap0 z0) (w1 : OldRow .i64 w b0 len1 cap1 z1) (w2 : (Lit.int .i64 a2).wf = true) (w3 : (Lit.int .i64 a3).wf = true) (w4 : (Lit.int .i64 a4).wf = true) :
    Calls Try.prog 10 #[.slice a0 len0 cap0, .slice b0 len1 cap1, .int .i64 a2, .int .i64 a3, .int .i64 a4] w fun e w' => e = .returned (.bool true) ∧ Below w.heap.size w w' := by
  have hf := pickI_bd a3 2 (by omega)
  have hr := pickI_bd a2 65 (by omega)
  by_cases hl : len0 ≤ 20
  · by_cases h1 : pickI a3 2 = 0
    · exact older_one w a0 b0 len0 cap0 len1 cap1 _ _ a2 a3 a4 (bounds_i64 w2) (bounds_i64 w3) (bounds_i64 w4) w0.ints w1.ints h1 hl
    · by_cases h2 : pickI a2 65 = 0
      · exact older_twoAZ w a0 b0 len0 cap0 len1 cap1 _ _ a2 a3 a4 (bounds_i64 w2) (bounds_i64 w3) (bounds_i64 w4) w0.ints w1.ints (by omega) h2 hl
      · exact older_twoAP w a0 b0 len0 cap0 len1 cap1 _ _ a2 a3 a4 (bounds_i64 w2) (bounds_i64 w3) (bounds_i64 w4) w0.ints w1.ints (by omega) (pickI a2 65 - 1).toNat (by omega) (by omega) hl
  · by_cases h1 : pickI a3 2 = 0
    · exact older_oneB w a0 b0 len0 cap0 len1 cap1 _ _ a2 a3 a4 (bounds_i64 w2) (bounds_i64 w3) (bounds_i64 w4) w0.ints w1.ints h1 (by omega)
    · by_cases h2 : pickI a2 65 = 0
      · exact older_twoBZ w a0 b0 len0 cap0 len1 cap1 _ _ a2 a3 a4 (bounds_i64 w2) (bounds_i64 w3) (bounds_i64 w4) w0.ints w1.ints (by omega) h2 (by omega)
      · exact older_twoBP w a0 b0 len0 cap0 len1 cap1 _ _ a2 a3 a4 (bounds_i64 w2) (bounds_i64 w3) (bounds_i64 w4) w0.ints w1.ints (by omega) (pickI a2 65 - 1).toNat (by omega) (by omega) (by omega)

/-! ### THE ROW's STEP -/
set_option maxRecDepth 100000 in
theorem older_lifted (os : Os) (started : os.Started) (H : Type) (enc : TypeId × Value → H) :
    ReturnsInHanded {} Try.checked os 10 .any (Rows.olderSpec.pre6 enc Try.prog Try.f10 Rows.olderRow.domain false) (Rows.olderSpec.post enc Try.prog Try.f10 false true false false) := by
  refine returnsInHanded_of_change (C := Try.checked) older_own started (by kernel_rfl) Try.func10
    (ChangeSpec.witness6 (enc := enc) (C := Try.checked) false ⟨#[], #[.slice none 0 0, .slice none 0 0, .int .i64 0, .int .i64 0, .int .i64 0], []⟩ 8 (by kernel_rfl) (by kernel_rfl) (by kernel_rfl) (by kernel_rfl)) ?_
  intro W base args ds gs before hval0 hW hcnd _
  have hval : ∀ (j : Nat) t v, Try.f10.params[j]? = some t → args[j]? = some v → Value.okWide Try.prog W .any base t v := hval0
  have hW' := hW
  obtain ⟨p, q, hA0, hV, rfl, hfz, hnd⟩ := hW
  have hA : DataW.TrodAll enc Try.prog W 0 (fun _ => true) true Try.f10.params.toList args.toList ds p := hA0
  rw [Try.params10] at hA hval
  obtain ⟨v0, vs0, d0, ds0, p0, q0, hargs, rfl, rfl, h0, r0⟩ := trodAll_cons hA
  obtain ⟨v1, vs1, d1, ds1, p1, q1, rfl, rfl, rfl, h1, r1⟩ := trodAll_cons r0
  obtain ⟨v2, vs2, d2, ds2, p2, q2, rfl, rfl, rfl, h2, r2⟩ := trodAll_cons r1
  obtain ⟨v3, vs3, d3, ds3, p3, q3, rfl, rfl, rfl, h3, r3⟩ := trodAll_cons r2
  obtain ⟨v4, vs4, d4, ds4, p4, q4, rfl, rfl, rfl, h4, r4⟩ := trodAll_cons r3
  obtain ⟨rfl, rfl, rfl⟩ := trodAll_nil r4
  obtain rfl : args = #[v0, v1, v2, v3, v4] := by cases args; simp_all
  obtain ⟨rfl, rfl⟩ := trodVars_none hV
  obtain ⟨a0, len0, cap0, rfl⟩ := okWide_slice Try.underlying22 (hval 0 22 v0 rfl rfl)
  obtain ⟨b0, len1, cap1, rfl⟩ := okWide_slice Try.underlying22 (hval 1 22 v1 rfl rfl)
  have k0 := h0
  have k1 := h1
  have lt0 : ∀ x ∈ p0, x.block < W.heap.size := by obtain ⟨m, hm⟩ := k0; exact DataW.trod_lt m _ _ _ hm
  have lt1 : ∀ x ∈ p1, x.block < W.heap.size := by obtain ⟨m, hm⟩ := k1; exact DataW.trod_lt m _ _ _ hm
  obtain ⟨z0, w0⟩ : ∃ zs, OldRow .i64 W a0 len0 cap0 zs := by
    obtain ⟨fuel, hf⟩ := h0
    rcases open_ints Try.underlying22 Try.underlying3 (by kernel_rfl) hf with ⟨hcs, _⟩ | ⟨x, l, c, zs, hcs, _, hl, hm, hz, _, hcell, hwz⟩
    · simp [Value.cells] at hcs
      obtain ⟨rfl, rfl, rfl⟩ := hcs
      exact ⟨[], .inl ⟨rfl, rfl, rfl, rfl⟩⟩
    · simp [Value.cells] at hcs
      obtain ⟨rfl, rfl, rfl⟩ := hcs
      exact ⟨zs, .inr ⟨_, rfl, hl, hm, by simpa using hz, hcell, hwz⟩⟩
  obtain ⟨z1, w1⟩ : ∃ zs, OldRow .i64 W b0 len1 cap1 zs := by
    obtain ⟨fuel, hf⟩ := h1
    rcases open_ints Try.underlying22 Try.underlying3 (by kernel_rfl) hf with ⟨hcs, _⟩ | ⟨x, l, c, zs, hcs, _, hl, hm, hz, _, hcell, hwz⟩
    · simp [Value.cells] at hcs
      obtain ⟨rfl, rfl, rfl⟩ := hcs
      exact ⟨[], .inl ⟨rfl, rfl, rfl, rfl⟩⟩
    · simp [Value.cells] at hcs
      obtain ⟨rfl, rfl, rfl⟩ := hcs
      exact ⟨zs, .inr ⟨_, rfl, hl, hm, by simpa using hz, hcell, hwz⟩⟩
  obtain ⟨a2, rfl, rfl, rfl, w2⟩ := open_int Try.underlying3 (hval 2 3 v2 rfl rfl) h2
  obtain ⟨a3, rfl, rfl, rfl, w3⟩ := open_int Try.underlying3 (hval 3 3 v3 rfl rfl) h3
  obtain ⟨a4, rfl, rfl, rfl, w4⟩ := open_int Try.underlying3 (hval 4 3 v4 rfl rfl) h4
  clear hA0 hval0
  refine (older_true a0 len0 cap0 z0 b0 len1 cap1 z1 a2 a3 a4 W w0 w1 w2 w3 w4).mono fun e W' ⟨he, bel⟩ => ?_
  subst he
  exact ⟨_, rfl, _, _, _, [], _, [], hW', trodAll_mk1 (shut_bool Try.underlying4 _), (trodAll_cons_mk (Below.trod laidOut (by kernel_rfl) (of_decide_eq_true (by kernel_rfl)) k0 bel lt0) (trodAll_cons_mk (Below.trod laidOut (by kernel_rfl) (of_decide_eq_true (by kernel_rfl)) k1 bel lt1) (trodAll_cons_mk (shut_int Try.underlying3 w2) (trodAll_cons_mk (shut_int Try.underlying3 w3) (trodAll_cons_mk (shut_int Try.underlying3 w4) trodAll_mk0))))), rfl, bel.frame _, fun h => by cases h⟩

theorem older_over : Rows.olderRow.holds Try.pinned (OpenSpec.ofChange Rows.olderSpec) :=
  OpenClaim.holds_of_wide 10 Try.f10 rfl rfl rfl rfl rfl rfl rfl ⟨rfl, rfl, rfl, rfl, rfl⟩ rfl rfl rfl rfl rfl (by kernel_rfl) Try.func10 (by kernel_rfl)
    (of_decide_eq_true (by kernel_rfl)) (by unfold Func.isWrapper; first | (rw [if_pos (by decide +kernel)]; kernel_rfl) | (rw [if_neg (by decide +kernel)]; exact ⟨rfl, rfl⟩))
    (fun os started H enc _ => older_lifted os started H enc)

/-- The statement. -/
theorem older_holds : Rows.OlderSaid := older_over
#print axioms older_holds
end Go.Proofs.Ytfcepnhknmbaaaa
