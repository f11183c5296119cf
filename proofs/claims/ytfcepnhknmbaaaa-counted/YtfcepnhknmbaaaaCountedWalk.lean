/- Counted: the law's own walk: it returns true, and turns nothing that was there. -/
import Derived.Test.YtfcepnhknmbaaaaKeepB
namespace Go.Proofs.Ytfcepnhknmbaaaa
open Go.RowKit Go.Deep

theorem RunX.free_le {X : Nat → Prop} {w : World} {mb : Nat} {A : Abs} (h : RunX X w mb A) : A.free ≤ 64 := by
  obtain ⟨_, own, ⟨S, H, hM, _, hS, _⟩, _⟩ := h
  have h1 := freeTo_le S.M.U S.M.n
  have h2 := hM.mem.le
  rw [hS.free]
  show freeTo S.M.U S.M.n ≤ 64
  omega

def hasRow (A : Abs) (j : Nat) : Value := .bool (A.pg 1 j).isSome
def grpRow (A : Abs) (j : Nat) : Value := .int .i64 (cntG A j)
theorem cntG_le (A : Abs) (k : Nat) : cntG A k ≤ 8 := cntTo_le A k 8

def LawX (w : World) (hb gb : Nat) (b : Nat) : Prop := (b < w.heap.size ∨ b = hb) ∨ b = gb

theorem code_unmap {A : Abs} {fr : Nat} {p : Int} (h : Cnt A fr) (h0 : 0 ≤ p) (h1 : p < 64) (hx : (A.pg 1 p.toNat).isSome = true) : A.unmapCode 1 p = 0 := by
  have hc : A.check 1 (isPg p) = 0 := by simp [Abs.check, h.has, isPg, h0, h1]
  simp [Abs.unmapCode, hc, hx]
theorem code_map {A : Abs} {fr : Nat} {p : Int} (h : Cnt A fr) (h0 : 0 ≤ p) (h1 : p < 64) (hx : (A.pg 1 p.toNat).isSome = false) : A.mapCode 1 p = if A.free < (if cntG A (p.toNat / 8) = 0 then 2 else 1) then 3 else 0 := by
  have hc : A.check 1 (isPg p) = 0 := by simp [Abs.check, h.has, isPg, h0, h1]
  have hn : A.need 1 p.toNat = if cntG A (p.toNat / 8) = 0 then 2 else 1 := by
    simp only [Abs.need, cntG_grp]
    by_cases e : cntG A (p.toNat / 8) = 0 <;> simp [e]
  simp [Abs.mapCode, hc, hx, hn]

theorem cnt_pos {A : Abs} {p : Nat} (ha : (A.pg 1 p).isSome = true) : 1 ≤ cntG A (p / 8) := by
  have h : A.grp 1 (p / 8) = true := by
    simp only [Abs.grp, List.any_eq_true, List.mem_range]
    exact ⟨p % 8, by omega, by rw [show 8 * (p / 8) + p % 8 = p by omega]; exact ha⟩
  rw [cntG_grp, decide_eq_true_eq] at h
  omega

/-- What holds at each round's head. -/
structure CRel (w : World) (mb fr hb gb k : Nat) (A : Abs) (wr : World) : Prop where
  run : RunX (LawX w hb gb) wr mb A
  keep : Keeps (fun b => b < w.heap.size) w wr
  cnt : Cnt A fr
  kn : A.kn ≤ 10 + 2 * k
  hrow : ∃ t, wr.rowIs hb t 64 (hasRow A)
  grow : ∃ t, wr.rowIs gb t 8 (grpRow A)

theorem crel_call {w wr w2 : World} {mb fr hb gb k : Nat} {A : Abs} (h : CRel w mb fr hb gb k A wr) (hK : Keeps (LawX w hb gb) wr w2) :
    Keeps (fun b => b < w.heap.size) w w2 ∧ (∃ t, w2.rowIs hb t 64 (hasRow A)) ∧ (∃ t, w2.rowIs gb t 8 (grpRow A)) := by
  obtain ⟨t1, r1⟩ := h.hrow
  obtain ⟨t2, r2⟩ := h.grow
  exact ⟨h.keep.trans (hK.mono (fun b hb => Or.inl (Or.inl hb))), ⟨t1, hK.row r1 (Or.inl (Or.inr rfl))⟩, ⟨t2, hK.row r2 (Or.inr rfl)⟩⟩

theorem crel_same {w wr w2 : World} {mb fr hb gb k : Nat} {A A' : Abs} (h : CRel w mb fr hb gb k A wr) (hR : RunX (LawX w hb gb) w2 mb A') (hK : Keeps (LawX w hb gb) wr w2) (hA : A' = A ∨ A' = A.tick) : CRel w mb fr hb gb (k + 1) A' w2 := by
  obtain ⟨h1, h2, h3⟩ := crel_call h hK
  have hk := h.kn
  rcases hA with rfl | rfl
  · exact ⟨hR, h1, h.cnt, by omega, h2, h3⟩
  · exact ⟨hR, h1, ⟨h.cnt.an, h.cnt.has, h.cnt.lone, h.cnt.non, h.cnt.free⟩, by show A.kn + 1 ≤ _; omega, h2, h3⟩

theorem crel_turn {w wr w2 : World} {mb fr hb gb k p : Nat} {A A' : Abs} {c : Nat} (h : CRel w mb fr hb gb k A wr) (hR : RunX (LawX w hb gb) w2 mb A') (hK : Keeps (LawX w hb gb) wr w2) (hne : hb ≠ gb) (hhb : w.heap.size ≤ hb) (hgb : w.heap.size ≤ gb)
    (hC : Cnt A' fr) (hkn : A'.kn = A.kn + 1) (ho : ∀ q, q ≠ p → (A'.pg 1 q).isSome = (A.pg 1 q).isSome) (hg : ∀ q, q ≠ p / 8 → cntG A' q = cntG A q) (hc : cntG A' (p / 8) = c) :
    CRel w mb fr hb gb (k + 1) A' ((w2.setCell ⟨hb, p, none⟩ (.bool (A'.pg 1 p).isSome)).setCell ⟨gb, p / 8, none⟩ (.int .i64 c)) := by
  obtain ⟨h1, ⟨t2, h2⟩, ⟨t3, h3⟩⟩ := crel_call h hK
  have hk := h.kn
  refine ⟨(hR.setCell (a := ⟨hb, p, none⟩) (Or.inl (Or.inr rfl)) _).setCell (a := ⟨gb, p / 8, none⟩) (Or.inr rfl) _, ?_, hC, by omega, ⟨t2, ?_⟩, ⟨t3, ?_⟩⟩
  · refine h1.trans ⟨rfl, rfl, rfl, by simp, fun b hb' => ?_⟩
    rw [Below.heap_setCell _ _ _ _ (by simp; omega), Below.heap_setCell _ _ _ _ (by simp; omega)]
  · refine ((h2.set p _).setOther (by simpa using hne) _).congr (fun j _ => ?_)
    simp only [hasRow]
    by_cases e : j = p
    · rw [if_pos e, e]
    · rw [if_neg e, ho j e]
  · refine ((h3.setOther (by simpa using fun e => hne e.symm) _).set (p / 8) _).congr (fun j _ => ?_)
    simp only [grpRow]
    by_cases e : j = p / 8
    · rw [if_pos e, e, hc]
    · rw [if_neg e, hg j e]

theorem crel_start {w w1 : World} {mb fr : Nat} {A : Abs} (hX : RunX (fun b => b < w.heap.size) w1 mb A) (hK : Keeps (fun b => b < w.heap.size) w w1) (hC : Cnt A fr) (hkn : A.kn ≤ 10) (hpg : ∀ p, A.pg 1 p = none) (hg : ∀ k, cntG A k = 0) :
    CRel w mb fr w1.heap.size (w1.heap.size + 1) 0 A ((w1.alloc (.cells (Array.replicate 64 (.bool false)) 26)).alloc (.cells (Array.replicate 8 (.int .i64 0)) 27)) := by
  have hsz := hK.size
  have r1 := World.rowIs_alloc w1 (Array.replicate 64 (.bool false)) 26 (hasRow A) (fun i hi => by
    have hi : i < 64 := by simpa using hi
    simp [hi, hasRow, hpg])
  have r2 := World.rowIs_alloc (w1.alloc (.cells (Array.replicate 64 (.bool false)) 26)) (Array.replicate 8 (.int .i64 0)) 27 (grpRow A) (fun i hi => by
    have hi : i < 8 := by simpa using hi
    simp [hi, grpRow, hg])
  rw [World.size_alloc] at r2
  rw [Array.size_replicate] at r1 r2
  refine ⟨?_, hK.trans ⟨rfl, rfl, rfl, by simp; omega, fun b hb => ?_⟩, hC, by omega, ⟨26, r1.alloc _⟩, ⟨27, r2⟩⟩
  · have := (hX.alloc (.cells (Array.replicate 64 (.bool false)) 26)).alloc (.cells (Array.replicate 8 (.int .i64 0)) 27)
    rw [World.size_alloc] at this
    exact this
  · rw [Below.heap_alloc _ _ _ (by simp; omega), Below.heap_alloc _ _ _ (by omega)]

set_option maxRecDepth 100000 in
set_option maxHeartbeats 4000000 in
theorem counted_walk (a0 : Option Addr) (len cap : Nat) (z : Nat → Int) (c : Int) (w : World) (hc : In64 c)
  (hrow : ∀ k, k < len → ∃ b off, a0 = some ⟨b, off, none⟩ ∧ w.cell? ⟨b, off + k, none⟩ = some (.int .i64 (z k)) ∧ In64 (z k)) (hlen : len ≤ maxLen) :
    Calls Try.prog 3 #[.slice a0 len cap, .int .i64 c] w fun e w' => e = .returned (.bool true) ∧ Below w.heap.size w w' := by
  have hp := pickI_bd c 61 (by omega)
  have hlen2 : (len : Int) ≤ 9223372036854775807 := by unfold maxLen at hlen; omega
  have HR := hid hrow
  clear hrow hlen
  go_enter Try.func3, Try.ntmps3
  go_wp2_with fail
  refine (pick_any _ c 61 hc.1 hc.2 (by omega) (by omega)).mono ?_
  rintro e w1 ⟨rfl, rfl⟩
  generalize pickI c 61 = q at *
  go_wp2_with fail
  refine (machine_any _ _ _ (by omega) (by omega) (by omega) (by omega) (by omega)).mono ?_
  rintro e w1 ⟨mb, A0, rfl, hR0, hI0⟩
  obtain ⟨hX0, hK0⟩ := RunX.of_run hR0
  obtain ⟨hC0, hf0, hg0⟩ := cnt_init hI0 (by omega)
  have HS := hid (crel_start hX0 hK0 hC0 hI0.kn (fun p => hI0.pg 1 p) hg0)
  have hsz := hK0.size
  have HF0 : Hid ((A0.free : Int) = 4 + q - 1) := by simp only [Hid]; omega
  clear hR0 hI0 hX0 hK0 hC0 hg0 hc hf0
  go_wp2_with fail
  go_loopw [6, 9] (fun s6 s9 wr => ∃ (k : Nat) (A : Abs), k ≤ 200 ∧ k ≤ len ∧ s9 = .int .i64 k ∧ s6 = .int .i64 A.free ∧ CRel w mb (4 + q).toNat w1.heap.size (w1.heap.size + 1) k A wr) (fun _ s9 _ => 200 - (intOf s9).toNat)
  case atStart => exact ⟨0, A0, by omega, by omega, rfl, by rw [HF0.out], HS.out⟩
  case round =>
    obtain ⟨k, A, hk200, hklen, rfl, rfl, hrel⟩ := hrel
    have hfle := hrel.run.free_le
    have hkn : A.kn < maxLen := by have := hrel.kn; unfold maxLen; omega
    have HKN := hid hkn
    clear hkn HS
    by_cases hlt : k < len
    · by_cases h200 : k < 200
      · obtain ⟨b, off, rfl, hcz, hz64⟩ := HR.out k hlt
        have hblt := World.block_lt_of_cell? _ _ hcz
        have hcz' : wr.cell? ⟨b, off + k, none⟩ = some (.int .i64 (z k)) := by rw [hrel.keep.cell (p := ⟨b, off + k, none⟩) hblt]; exact hcz
        have hpb := pickI_bd (z k) 64 (by omega)
        go_wp2_with fail
        refine (pick_any _ (z k) 64 hz64.1 hz64.2 (by omega) (by omega)).mono ?_
        rintro e w2 ⟨rfl, rfl⟩
        clear hz64 hcz
        generalize pickI (z k) 64 = p at *
        obtain ⟨t1, r1⟩ := hrel.hrow
        obtain ⟨t2, r2⟩ := hrel.grow
        have hcp : wr.cell? ⟨w1.heap.size, p.toNat, none⟩ = some (.bool (A.pg 1 p.toNat).isSome) := r1.cell (by omega)
        have hcg : wr.cell? ⟨w1.heap.size + 1, (p / 8).toNat, none⟩ = some (.int .i64 (cntG A (p.toNat / 8))) := by
          rw [show (p / 8).toNat = p.toNat / 8 by omega]
          exact r2.cell (by omega)
        have hcgle := cntG_le A (p.toNat / 8)
        clear r1 r2
        cases hx : (A.pg 1 p.toNat).isSome with
        | true =>
          rw [hx] at hcp
          have hcode := code_unmap hrel.cnt hpb.1 hpb.2 hx
          have HCODE := hid hcode
          have hpos := cnt_pos hx
          have HMORE := hid (cnt_more hx)
          clear hcode
          go_wp2_with fail
          refine (xUnmap hrel.run 1 p (in64_lit (by omega) (by omega)) HKN.out).mono ?_
          rintro e w2 ⟨A', rfl, hR', hK', hA', _⟩
          obtain ⟨fr', rfl, hfr⟩ := hA' HCODE.out
          have hfr := hfr (cnt_lone hrel.cnt (by omega))
          rw [HMORE.out] at hfr
          rw [HCODE.out]
          obtain ⟨hC', hx1, hoth, hcn⟩ := cnt_unmapped (fr' := fr') hrel.cnt hx hR'.free_le
          have hT := crel_turn (p := p.toNat) (c := cntG A (p.toNat / 8) - 1) hrel hR' hK' (by omega) (by omega) (by omega) hC' rfl hoth (fun j hj => by have := hcn j; rw [if_neg (fun e => hj e.symm)] at this; exact this) (by have := hcn (p.toNat / 8); rw [if_pos rfl] at this; omega)
          rw [hx1, show ((cntG A (p.toNat / 8) - 1 : Nat) : Int) = (cntG A (p.toNat / 8) : Int) - 1 by omega, show p.toNat / 8 = (p / 8).toNat by omega] at hT
          obtain ⟨_, ⟨t1, r1⟩, ⟨t2, r2⟩⟩ := crel_call hrel hK'
          have e0 : w2.cell? ⟨w1.heap.size, p.toNat, none⟩ = some (.bool true) := by rw [r1.cell (by omega)]; simp only [hasRow, hx]
          have e1 : w2.cell? ⟨w1.heap.size + 1, (p / 8).toNat, none⟩ = some (.int .i64 (cntG A (p / 8).toNat)) := by rw [r2.cell (by omega)]; rfl
          have f0 := r1.frozen p.toNat
          have f1 := r2.frozen (p / 8).toNat
          rw [show p.toNat / 8 = (p / 8).toNat by omega] at hfr hpos hcgle hcg
          have HFR := hid hfr
          have HT := hid hT
          clear hA' hfr hC' hx1 hoth hcn hT r1 r2 HMORE
          generalize cntG A (p / 8).toNat = cg at *
          by_cases he : cg = 1
          · have heq : (((cg : Nat) : Int) - 1 == 0) = true := by rw [beq_iff_eq]; omega
            have HF : Hid ((fr' : Int) = (A.free : Int) + 1 + 1) := by have := HFR.out; simp [he] at this; simp only [Hid]; omega
            clear he
            go_wp2_with fail
            refine (xFree HT.out.run).mono ?_
            rintro e w3 ⟨rfl, rfl⟩
            rw [show (((A.unmapped 1 p.toNat fr').free : Nat) : Int) = (A.free : Int) + 1 + 1 from HF.out]
            go_wp2_with fail
            go_roundw
            case rel => exact ⟨k + 1, _, by omega, by omega, by go_num, by rw [show (((A.unmapped 1 p.toNat fr').free : Nat) : Int) = (fr' : Int) from rfl, HF.out], HT.out⟩
            case measure => simp [intOf]; omega
          · have heq : (((cg : Nat) : Int) - 1 == 0) = false := by rw [beq_eq_false_iff_ne]; omega
            have HF : Hid ((fr' : Int) = (A.free : Int) + 1) := by have := HFR.out; simp [he] at this; simp only [Hid]; omega
            clear he
            go_wp2_with fail
            refine (xFree HT.out.run).mono ?_
            rintro e w3 ⟨rfl, rfl⟩
            rw [show (((A.unmapped 1 p.toNat fr').free : Nat) : Int) = (A.free : Int) + 1 from HF.out]
            go_wp2_with fail
            go_roundw
            case rel => exact ⟨k + 1, _, by omega, by omega, by go_num, by rw [show (((A.unmapped 1 p.toNat fr').free : Nat) : Int) = (fr' : Int) from rfl, HF.out], HT.out⟩
            case measure => simp [intOf]; omega
        | false =>
          rw [hx] at hcp
          have hcode := code_map hrel.cnt hpb.1 hpb.2 hx
          have HNEED : A.need 1 p.toNat = if cntG A (p.toNat / 8) = 0 then 2 else 1 := by
            simp only [Abs.need, cntG_grp]
            by_cases e : cntG A (p.toNat / 8) = 0 <;> simp [e]
          rw [show p.toNat / 8 = (p / 8).toNat by omega] at hcode hcgle hcg HNEED
          generalize hcgq : cntG A (p / 8).toNat = cg at *
          have HCG := hid hcgq
          clear hcgq
          by_cases he : cg = 0
          · have heq : (((cg : Nat) : Int) == 0) = true := by rw [beq_iff_eq]; omega
            rw [if_pos he] at hcode HNEED
            have HN := hid HNEED
            clear he HNEED
            by_cases hf : A.free < 2
            · rw [if_pos hf] at hcode
              have HCODE := hid hcode
              clear hcode
              have hle : ¬ ((2 : Int) ≤ (A.free : Int)) := by omega
              go_wp2_with fail
              refine (xMap hrel.run 1 p _ (in64_lit (by omega) (by omega)) HKN.out).mono ?_
              rintro e w2 ⟨A', rfl, hR', hK', _, hA'⟩
              have hA' := hA' (by rw [HCODE.out]; omega)
              rw [HCODE.out]
              have hT := crel_same hrel hR' hK' hA'
              have HFE : Hid (((A'.free : Nat) : Int) = (A.free : Int)) := by rcases hA' with rfl | rfl <;> rfl
              have HT := hid hT
              clear hT hA'
              go_wp2_with fail
              refine (xFree HT.out.run).mono ?_
              rintro e w3 ⟨rfl, rfl⟩
              rw [HFE.out]
              go_wp2_with fail
              go_roundw
              case rel => exact ⟨k + 1, A', by omega, by omega, by go_num, by rw [HFE.out], HT.out⟩
              case measure => simp [intOf]; omega
            · rw [if_neg hf] at hcode
              have HCODE := hid hcode
              clear hcode
              have hle : (2 : Int) ≤ (A.free : Int) := by omega
              go_wp2_with fail
              refine (xMap hrel.run 1 p _ (in64_lit (by omega) (by omega)) HKN.out).mono ?_
              rintro e w2 ⟨A', rfl, hR', hK', hA', _⟩
              obtain ⟨f, bb, hNew, hAe⟩ : ∃ f bb, A.New f ∧ A' = A.mapped 1 p.toNat f bb := by
                obtain ⟨f, hNew, hAe⟩ := hA' HCODE.out
                exact ⟨f, _, hNew, hAe⟩
              subst hAe
              clear hA'
              rw [HCODE.out]
              obtain ⟨hC', hx1, hoth, hcn⟩ := cnt_mapped (b := bb) hrel.cnt hx hNew
              have hT := crel_turn (p := p.toNat) (c := cntG A (p.toNat / 8) + 1) hrel hR' hK' (by omega) (by omega) (by omega) hC' rfl hoth (fun j hj => by rw [hcn j, if_neg (fun e => hj e.symm)]; rfl) (by rw [hcn (p.toNat / 8), if_pos rfl])
              rw [hx1, show p.toNat / 8 = (p / 8).toNat by omega, HCG.out] at hT
              obtain ⟨_, ⟨t1, r1⟩, ⟨t2, r2⟩⟩ := crel_call hrel hK'
              have e0 : w2.cell? ⟨w1.heap.size, p.toNat, none⟩ = some (.bool false) := by rw [r1.cell (by omega)]; simp only [hasRow, hx]
              have e1 : w2.cell? ⟨w1.heap.size + 1, (p / 8).toNat, none⟩ = some (.int .i64 cg) := by rw [r2.cell (by omega)]; simp only [grpRow, HCG.out]
              have f0 := r1.frozen p.toNat
              have f1 := r2.frozen (p / 8).toNat
              have HF : Hid ((((A.mapped 1 p.toNat f bb).free : Nat) : Int) = (A.free : Int) - 2) := by
                show ((A.free - A.need 1 p.toNat : Nat) : Int) = _
                rw [HN.out]
                omega
              have HT := hid hT
              clear hC' hx1 hoth hcn hT r1 r2
              go_wp2_with fail
              refine (xFree HT.out.run).mono ?_
              rintro e w3 ⟨rfl, rfl⟩
              rw [HF.out]
              go_wp2_with fail
              go_roundw
              case rel => exact ⟨k + 1, _, by omega, by omega, by go_num, by rw [HF.out], HT.out⟩
              case measure => simp [intOf]; omega
          · have heq : (((cg : Nat) : Int) == 0) = false := by rw [beq_eq_false_iff_ne]; omega
            rw [if_neg he] at hcode HNEED
            have HN := hid HNEED
            clear he HNEED
            by_cases hf : A.free < 1
            · rw [if_pos hf] at hcode
              have HCODE := hid hcode
              clear hcode
              have hle : ¬ ((1 : Int) ≤ (A.free : Int)) := by omega
              go_wp2_with fail
              refine (xMap hrel.run 1 p _ (in64_lit (by omega) (by omega)) HKN.out).mono ?_
              rintro e w2 ⟨A', rfl, hR', hK', _, hA'⟩
              have hA' := hA' (by rw [HCODE.out]; omega)
              rw [HCODE.out]
              have hT := crel_same hrel hR' hK' hA'
              have HFE : Hid (((A'.free : Nat) : Int) = (A.free : Int)) := by rcases hA' with rfl | rfl <;> rfl
              have HT := hid hT
              clear hT hA'
              go_wp2_with fail
              refine (xFree HT.out.run).mono ?_
              rintro e w3 ⟨rfl, rfl⟩
              rw [HFE.out]
              go_wp2_with fail
              go_roundw
              case rel => exact ⟨k + 1, A', by omega, by omega, by go_num, by rw [HFE.out], HT.out⟩
              case measure => simp [intOf]; omega
            · rw [if_neg hf] at hcode
              have HCODE := hid hcode
              clear hcode
              have hle : (1 : Int) ≤ (A.free : Int) := by omega
              go_wp2_with fail
              refine (xMap hrel.run 1 p _ (in64_lit (by omega) (by omega)) HKN.out).mono ?_
              rintro e w2 ⟨A', rfl, hR', hK', hA', _⟩
              obtain ⟨f, bb, hNew, hAe⟩ : ∃ f bb, A.New f ∧ A' = A.mapped 1 p.toNat f bb := by
                obtain ⟨f, hNew, hAe⟩ := hA' HCODE.out
                exact ⟨f, _, hNew, hAe⟩
              subst hAe
              clear hA'
              rw [HCODE.out]
              obtain ⟨hC', hx1, hoth, hcn⟩ := cnt_mapped (b := bb) hrel.cnt hx hNew
              have hT := crel_turn (p := p.toNat) (c := cntG A (p.toNat / 8) + 1) hrel hR' hK' (by omega) (by omega) (by omega) hC' rfl hoth (fun j hj => by rw [hcn j, if_neg (fun e => hj e.symm)]; rfl) (by rw [hcn (p.toNat / 8), if_pos rfl])
              rw [hx1, show p.toNat / 8 = (p / 8).toNat by omega, HCG.out] at hT
              obtain ⟨_, ⟨t1, r1⟩, ⟨t2, r2⟩⟩ := crel_call hrel hK'
              have e0 : w2.cell? ⟨w1.heap.size, p.toNat, none⟩ = some (.bool false) := by rw [r1.cell (by omega)]; simp only [hasRow, hx]
              have e1 : w2.cell? ⟨w1.heap.size + 1, (p / 8).toNat, none⟩ = some (.int .i64 cg) := by rw [r2.cell (by omega)]; simp only [grpRow, HCG.out]
              have f0 := r1.frozen p.toNat
              have f1 := r2.frozen (p / 8).toNat
              have HF : Hid ((((A.mapped 1 p.toNat f bb).free : Nat) : Int) = (A.free : Int) - 1) := by
                show ((A.free - A.need 1 p.toNat : Nat) : Int) = _
                rw [HN.out]
                omega
              have HT := hid hT
              clear hC' hx1 hoth hcn hT r1 r2
              go_wp2_with fail
              refine (xFree HT.out.run).mono ?_
              rintro e w3 ⟨rfl, rfl⟩
              rw [HF.out]
              go_wp2_with fail
              go_roundw
              case rel => exact ⟨k + 1, _, by omega, by omega, by go_num, by rw [HF.out], HT.out⟩
              case measure => simp [intOf]; omega
      · go_wp2_with fail
        refine (xDestroy hrel.run 1 (in64_lit (by omega) (by omega))).mono ?_
        rintro e w2 ⟨A', rfl, hR', hK', hA', _⟩
        have hh : A.has 1 = true := by rw [hrel.cnt.has]; rfl
        obtain ⟨fr', rfl, hfr, _⟩ := hA' hh
        have hfr := hfr (fun g' hg' => by rw [hrel.cnt.has]; simpa using hg')
        rw [hh, if_pos rfl]
        have hb := (crel_call hrel hK').1
        have HF : Hid ((((A.destroyed 1 fr').free : Nat) : Int) = 4 + q) := by
          show ((fr' : Nat) : Int) = 4 + q
          rw [hfr, hrel.cnt.an]
          omega
        clear hfr hA'
        go_wp2_with fail
        refine (xFree hR').mono ?_
        rintro e w3 ⟨rfl, rfl⟩
        rw [HF.out]
        go_wp2_with fail
        go_ret
        exact ⟨rfl, hb.below (fun b hb => hb)⟩
    · go_wp2_with fail
      refine (xDestroy hrel.run 1 (in64_lit (by omega) (by omega))).mono ?_
      rintro e w2 ⟨A', rfl, hR', hK', hA', _⟩
      have hh : A.has 1 = true := by rw [hrel.cnt.has]; rfl
      obtain ⟨fr', rfl, hfr, _⟩ := hA' hh
      have hfr := hfr (fun g' hg' => by rw [hrel.cnt.has]; simpa using hg')
      rw [hh, if_pos rfl]
      have hb := (crel_call hrel hK').1
      have HF : Hid ((((A.destroyed 1 fr').free : Nat) : Int) = 4 + q) := by
        show ((fr' : Nat) : Int) = 4 + q
        rw [hfr, hrel.cnt.an]
        omega
      clear hfr hA'
      go_wp2_with fail
      refine (xFree hR').mono ?_
      rintro e w3 ⟨rfl, rfl⟩
      rw [HF.out]
      go_wp2_with fail
      go_ret
      exact ⟨rfl, hb.below (fun b hb => hb)⟩
end Go.Proofs.Ytfcepnhknmbaaaa
