/- The law's step 'saves': Save, Restore, Upgrade: the two machines answer the same, and go on agreeing. -/
import Derived.Test.YtfcepnhknmbaaaaGreatLawTurns
import Derived.Test.YtfcepnhknmbaaaaGreatRefRestoreM
namespace Go.Proofs.YtfcepnhknmbaaaaGreat
open Go.RowKit Go.Deep

def pickS (bs sb : ByteArray) : ByteArray := if sb.size = 0 then bs else sb
theorem empty_of {s : ByteArray} (h : s.size = 0) : s = { data := #[] } := by
  apply nats_inj
  have := nats_len s
  rw [h] at this
  rw [List.eq_nil_of_length_eq_zero this]
  rfl
theorem empty_list {s : ByteArray} (h : s.size ≠ 0) : (s.toList == []) = false := by
  rw [beq_eq_false_iff_ne]
  intro e
  rw [ByteArray.toList_eq] at e
  apply h
  have := nats_len s
  rw [← this, nats, e]
  rfl

theorem frames_congr {P Q : Pic} (h : P.Same Q) : P.frames = Q.frames := by
  have hg : ∀ k, k ≤ 64 → P.grpTo k = Q.grpTo k := fun k => by
    induction k with
    | zero => intro _; rfl
    | succ k ih => intro hk; rw [Pic.grpTo, Pic.grpTo, h.pr k (by omega), ih (by omega)]
  have hf : ∀ k, k ≤ 64 → P.frTo k = Q.frTo k := fun k => by
    induction k with
    | zero => intro _; rfl
    | succ k ih => intro hk; rw [Pic.frTo, Pic.frTo, h.pr k (by omega), ih (by omega), hg k (by omega)]
  exact hf 64 (Nat.le_refl _)

section
variable {A : Abs} {R : RS} {psi : Int → Nat}
theorem Agree.restoreCode (h : Agree A R psi) (hf : R.free = A.free) {P Q : Pic} (hs : P.Same Q) : R.restoreCode Q = A.admitCode P := by
  rw [RS.restoreCode, Abs.admitCode, h.cnt, hf, frames_congr hs]
  by_cases e : 4 ≤ R.L.length
  · rw [if_pos e, if_pos e]
  · rw [if_neg e, if_neg e]
    by_cases e2 : A.free < Q.frames
    · rw [if_pos (by omega), if_pos e2]
    · rw [if_neg (by omega), if_neg e2]
theorem Agree.gpic (h : Agree A R psi) {G : RG} (hG : G ∈ R.L) : GPic G R.Wd (A.pic G.N) := by
  have hp := h.pg G hG
  refine ⟨(h.rt G hG).1.symm, fun p hp64 => ?_, fun p b hp64 e => ?_, fun p b hp64 e k hk => ?_, fun p hp64 e => ?_⟩
  · show (A.pg G.N p).isSome = _
    rw [hp p hp64, Option.isSome_map]
  · show (match A.pg G.N p with | .some (_, b) => b | .none => false) = _
    rw [hp p hp64, e]
    rfl
  · show _ = (match A.pg G.N p with | .some (f, _) => A.wd f k | .none => 0)
    rw [hp p hp64, e]
    exact (h.wd b ⟨G, hG, p, hp64, e⟩ k hk).symm
  · constructor
    · show (match A.pg G.N p with | .some (_, b) => b | .none => false) = false
      rw [hp p hp64, e]; rfl
    · intro k _
      show (match A.pg G.N p with | .some (f, _) => A.wd f k | .none => 0) = 0
      rw [hp p hp64, e]; rfl
end

/-- What a step of these leaves: the pair of machines; and, it may be, the newest bytes. -/
def SavedTo (w w' : World) (wb mb rb : Nat) (own : Nat → Prop) (c : Nat) : Prop := ∃ own' w2, DuoAt w2 mb rb own' (c + 1) ∧ Left w w2 own own' ∧ (w' = w2 ∨ ∃ bs : ByteArray, bs.size ≤ maxLen ∧ w' = w2.setCell ⟨wb, 1, none⟩ (.string bs))

theorem kn_lt64 {A : Abs} {c : Nat} (h : A.kn ≤ 70 * c) (hc : c < big) : A.kn + 64 < maxLen := by
  have : 70 * big + 70 < maxLen := by decide
  omega

section
variable (w : World) (wb mb rb : Nat) (own : Nat → Prop) (c : Nat) (h : DuoAt w mb rb own c) (on a b cc d : Int) (W : Bool) (bs sb : ByteArray)

set_option maxRecDepth 100000 in
set_option maxHeartbeats 2000000 in
theorem savesUp_any (w : World) (wb mb rb : Nat) (own : Nat → Prop) (c : Nat) (h : DuoAt w mb rb own c) (on a b cc d : Int) (W : Bool) (bs sb : ByteArray) (hcw : w.cell? ⟨wb, 1, none⟩ = some (.string bs)) (hs : (pickS bs sb).size ≤ maxLen) :
    Calls Tryz.prog 14 #[pt wb, mcV mb rb, opV 15 on a b cc d W (.string sb)] w fun e w' => e = .returned (.bool true) ∧ SavedTo w w' wb mb rb own c := by
  have HDONE : Hid (∀ w', Only Nob w w' → SavedTo w w' wb mb rb own c) := fun w' o => ⟨own, w', (h.only o (fun _ _ q => q)).mono (Nat.le_succ c), ⟨o.of_nob, fun _ q => Or.inl q⟩, Or.inl rfl⟩
  have hcx := (bx_only w mb rb 15 on a b cc d W (.string sb)).keep (fun q => q) hcw
  have HO0 := hid (bx_only w mb rb 15 on a b cc d W (.string sb))
  unfold bx at hcx HO0
  clear h hcw
  unfold mcV opV
  by_cases h0 : sb.size = 0
  · have e0 := empty_of h0
    subst e0
    rw [pickS, if_pos h0] at hs
    clear h0
    have HC := hid (fun wz => upgrade_any wz bs hs)
    have HR := hid (fun wz => rupgrade_any wz bs hs)
    go_enter Tryz.func14, Tryz.ntmps14
    go_wp2_with fail
    refine (HC.out _).mono ?_
    rintro e w1 ⟨q1, q2, o1⟩
    by_cases hv : Valid (nats bs)
    · have e1 := q1 hv
      subst e1
      have HO1 := hid o1
      have HV := hid hv
      clear q1 q2 o1 hv
      go_wp2_with fail
      refine (HR.out _).mono ?_
      rintro e w2 ⟨r1, r2, o2⟩
      have e2 := r1 HV.out
      subst e2
      have HO2 := hid o2
      clear r1 r2 o2
      generalize toS (encL (picOf (nats bs))) = TT at *
      go_wp2
      go_ret
      exact ⟨by simp, HDONE.out _ ((HO0.out.trans HO1.out).trans HO2.out)⟩
    · have e1 := q2 hv
      subst e1
      have HO1 := hid o1
      have HV := hid hv
      clear q1 q2 o1 hv
      go_wp2_with fail
      refine (HR.out _).mono ?_
      rintro e w2 ⟨r1, r2, o2⟩
      have e2 := r2 HV.out
      subst e2
      have HO2 := hid o2
      clear r1 r2 o2
      go_wp2
      go_ret
      exact ⟨by simp, HDONE.out _ ((HO0.out.trans HO1.out).trans HO2.out)⟩
  · have he := empty_list h0
    rw [pickS, if_neg h0] at hs
    clear h0
    have HC := hid (fun wz => upgrade_any wz sb hs)
    have HR := hid (fun wz => rupgrade_any wz sb hs)
    go_enter Tryz.func14, Tryz.ntmps14
    go_wp2_with fail
    refine (HC.out _).mono ?_
    rintro e w1 ⟨q1, q2, o1⟩
    by_cases hv : Valid (nats sb)
    · have e1 := q1 hv
      subst e1
      have HO1 := hid o1
      have HV := hid hv
      clear q1 q2 o1 hv
      go_wp2_with fail
      refine (HR.out _).mono ?_
      rintro e w2 ⟨r1, r2, o2⟩
      have e2 := r1 HV.out
      subst e2
      have HO2 := hid o2
      clear r1 r2 o2
      generalize toS (encL (picOf (nats sb))) = TT at *
      go_wp2
      go_ret
      exact ⟨by simp, HDONE.out _ ((HO0.out.trans HO1.out).trans HO2.out)⟩
    · have e1 := q2 hv
      subst e1
      have HO1 := hid o1
      have HV := hid hv
      clear q1 q2 o1 hv
      go_wp2_with fail
      refine (HR.out _).mono ?_
      rintro e w2 ⟨r1, r2, o2⟩
      have e2 := r2 HV.out
      subst e2
      have HO2 := hid o2
      clear r1 r2 o2
      go_wp2
      go_ret
      exact ⟨by simp, HDONE.out _ ((HO0.out.trans HO1.out).trans HO2.out)⟩

set_option maxRecDepth 100000 in
set_option maxHeartbeats 4000000 in
theorem savesRe_any (w : World) (wb mb rb : Nat) (own : Nat → Prop) (c : Nat) (h : DuoAt w mb rb own c) (on a b cc d : Int) (W : Bool) (bs sb : ByteArray) (hc : c < big) (hcw : w.cell? ⟨wb, 1, none⟩ = some (.string bs)) (hs : (pickS bs sb).size ≤ maxLen) :
    Calls Tryz.prog 14 #[pt wb, mcV mb rb, opV 14 on a b cc d W (.string sb)] w fun e w' => e = .returned (.bool true) ∧ SavedTo w w' wb mb rb own c := by
  obtain ⟨oa, A, R, psi, hD, hown⟩ := h
  have HD := hid hD
  have h0' := hid (hD.only (bx_only w mb rb 14 on a b cc d W (.string sb)) (fun _ _ q => q) (fun _ _ q => q))
  have hcell := hid (fun (w1 : World) (oa' : Nat → Prop) (l1 : Left (bx w mb rb 14 on a b cc d W (.string sb)) w1 oa oa') => hD.boxes l1)
  have HF : Hid (R.free = A.free) := hD.ag.free hD.rep
  have hcx := (bx_only w mb rb 14 on a b cc d W (.string sb)).keep (fun q => q) hcw
  unfold bx at hcx
  clear hD hcw
  unfold mcV opV
  by_cases h0 : sb.size = 0
  · have e0 := empty_of h0
    subst e0
    rw [pickS, if_pos h0] at hs
    clear h0
    by_cases hv : Valid (nats bs)
    · have HC := hid (absRestore h0'.out.rep bs hs hv (lt_num (by have := HD.out.last; rw [HD.out.ag.last]; exact this) hc))
      have HR := hid (fun (w1 : World) (h1 : Refm w1 rb R) => rrestore_any w1 rb R h1 HD.out.n64 (lt_num HD.out.last hc) (lt_num70 HD.out.made hc) bs hs hv)
      have HGD := hid (valid_good (nats_bys bs) hv).1
      clear hv
      go_enter Tryz.func14, Tryz.ntmps14
      go_wp2_with fail
      refine HC.out.mono ?_
      rintro e w1 ⟨Q, oa', A', hQ, _, rfl, rep1, l1, hAd⟩
      have HQ := hid hQ
      have HAD := hid hAd
      have HREP := hid rep1
      have HL1 := hid l1
      have hm := (hcell.out w1 oa' l1).m
      have hr1 := (h0'.out.mid l1).1
      have HRR := hid (HR.out w1 hr1)
      have HCODE := hid (HD.out.ag.restoreCode HF.out hQ)
      clear hQ hAd rep1 l1 hr1
      by_cases hz : A.admitCode Q = 0
      · rw [if_pos hz, hz]
        have HZ := hid hz
        clear hz
        go_wp2_with fail
        refine HRR.out.mono ?_
        rintro e w2 ⟨R', y1, y2, y3, y4, y5⟩
        obtain ⟨rfl, G, Wd, hRes⟩ := y4 (by rw [HCODE.out]; exact HZ.out)
        have HX : Hid (SavedTo w w2 wb mb rb own c) := by
          obtain ⟨psi', ag'⟩ := HD.out.ag.restored (fun g p q => HD.out.rep.non q) hRes HQ.out HGD.out.r0 HGD.out.r1 HAD.out HZ.out
          have hkn : A'.kn = A.kn := by
            obtain ⟨B, hB, rfl⟩ := HAD.out.1 HZ.out
            exact (Adm.taken (A := A.created) (fun p _ => HD.out.rep.non (by
              cases q : A.has ((A.last : Int) + 1) with
              | false => rfl
              | true =>
                obtain ⟨X, hX, e⟩ := (HD.out.ag.has _).1 q
                have h1 := (HD.out.ag.pos X hX).2
                have h2 := HD.out.ag.last
                omega)) (Nat.le_refl 64) hB).kn
          obtain ⟨own', z1, z2⟩ := HD.out.done hown (bx_only w mb rb 14 on a b cc d W (.string { data := #[] })) HL1.out HREP.out y1 y2 y3 ag' hRes.n (by have := HD.out.kn; omega) (by rw [hRes.last]; have := HD.out.last; omega) (by rw [hRes.made]; have := HD.out.made; have := cntF_le (picOf (nats bs)).pr 64; omega)
          exact ⟨own', w2, z1, z2, Or.inl rfl⟩
        clear y1 y2 y3 y4 y5 hRes
        have hla := HD.out.ag.last
        go_wp2
        go_ret
        exact ⟨by simp, HX.out⟩
      · rw [if_neg hz]
        have HZ := hid hz
        go_wp2_with fail
        refine HRR.out.mono ?_
        rintro e w2 ⟨R', y1, y2, y3, y4, y5⟩
        obtain ⟨rfl, rfl⟩ := y5 (by rw [HCODE.out]; exact HZ.out)
        rw [HCODE.out]
        have HX : Hid (SavedTo w w2 wb mb rb own c) := by
          have e1 := HAD.out.2 HZ.out
          have rep := HREP.out
          rw [e1] at rep
          obtain ⟨own', z1, z2⟩ := HD.out.done hown (bx_only w mb rb 14 on a b cc d W (.string { data := #[] })) HL1.out rep y1 y2 y3 HD.out.ag rfl (by have := HD.out.kn; omega) (by have := HD.out.last; omega) (by have := HD.out.made; omega)
          exact ⟨own', w2, z1, z2, Or.inl rfl⟩
        clear y1 y2 y3 y4 y5 hz
        generalize A.admitCode Q = code at *
        go_wp2
        go_ret
        exact ⟨by simp, HX.out⟩
    · have HC := hid (absRestoreBad h0'.out.rep bs hs hv)
      have HR := hid (fun (w1 : World) => rrestoreBad_any w1 rb bs hs hv)
      clear hv
      go_enter Tryz.func14, Tryz.ntmps14
      go_wp2_with fail
      refine HC.out.mono ?_
      rintro e w1 ⟨rfl, rep1, l1⟩
      have HREP := hid rep1
      have HL1 := hid l1
      have hm := (hcell.out w1 oa l1).m
      have hr1 := (h0'.out.mid l1).1
      have HR1 := hid hr1
      clear rep1 l1 hr1
      go_wp2_with fail
      refine (HR.out _).mono ?_
      rintro e w2 ⟨rfl, o2⟩
      have HX : Hid (SavedTo w w2 wb mb rb own c) := by
        obtain ⟨own', z1, z2⟩ := HD.out.done hown (bx_only w mb rb 14 on a b cc d W (.string { data := #[] })) HL1.out HREP.out (HR1.out.nob o2) o2.of_nob (fun _ q => Or.inl q) HD.out.ag rfl (by have := HD.out.kn; omega) (by have := HD.out.last; omega) (by have := HD.out.made; omega)
        exact ⟨own', w2, z1, z2, Or.inl rfl⟩
      clear o2
      go_wp2
      go_ret
      exact ⟨by simp, HX.out⟩
  · have he := empty_list h0
    rw [pickS, if_neg h0] at hs
    clear h0
    by_cases hv : Valid (nats sb)
    · have HC := hid (absRestore h0'.out.rep sb hs hv (lt_num (by have := HD.out.last; rw [HD.out.ag.last]; exact this) hc))
      have HR := hid (fun (w1 : World) (h1 : Refm w1 rb R) => rrestore_any w1 rb R h1 HD.out.n64 (lt_num HD.out.last hc) (lt_num70 HD.out.made hc) sb hs hv)
      have HGD := hid (valid_good (nats_bys sb) hv).1
      clear hv
      go_enter Tryz.func14, Tryz.ntmps14
      go_wp2_with fail
      refine HC.out.mono ?_
      rintro e w1 ⟨Q, oa', A', hQ, _, rfl, rep1, l1, hAd⟩
      have HQ := hid hQ
      have HAD := hid hAd
      have HREP := hid rep1
      have HL1 := hid l1
      have hm := (hcell.out w1 oa' l1).m
      have hr1 := (h0'.out.mid l1).1
      have HRR := hid (HR.out w1 hr1)
      have HCODE := hid (HD.out.ag.restoreCode HF.out hQ)
      clear hQ hAd rep1 l1 hr1
      by_cases hz : A.admitCode Q = 0
      · rw [if_pos hz, hz]
        have HZ := hid hz
        clear hz
        go_wp2_with fail
        refine HRR.out.mono ?_
        rintro e w2 ⟨R', y1, y2, y3, y4, y5⟩
        obtain ⟨rfl, G, Wd, hRes⟩ := y4 (by rw [HCODE.out]; exact HZ.out)
        have HX : Hid (SavedTo w w2 wb mb rb own c) := by
          obtain ⟨psi', ag'⟩ := HD.out.ag.restored (fun g p q => HD.out.rep.non q) hRes HQ.out HGD.out.r0 HGD.out.r1 HAD.out HZ.out
          have hkn : A'.kn = A.kn := by
            obtain ⟨B, hB, rfl⟩ := HAD.out.1 HZ.out
            exact (Adm.taken (A := A.created) (fun p _ => HD.out.rep.non (by
              cases q : A.has ((A.last : Int) + 1) with
              | false => rfl
              | true =>
                obtain ⟨X, hX, e⟩ := (HD.out.ag.has _).1 q
                have h1 := (HD.out.ag.pos X hX).2
                have h2 := HD.out.ag.last
                omega)) (Nat.le_refl 64) hB).kn
          obtain ⟨own', z1, z2⟩ := HD.out.done hown (bx_only w mb rb 14 on a b cc d W (.string sb)) HL1.out HREP.out y1 y2 y3 ag' hRes.n (by have := HD.out.kn; omega) (by rw [hRes.last]; have := HD.out.last; omega) (by rw [hRes.made]; have := HD.out.made; have := cntF_le (picOf (nats sb)).pr 64; omega)
          exact ⟨own', w2, z1, z2, Or.inl rfl⟩
        clear y1 y2 y3 y4 y5 hRes
        have hla := HD.out.ag.last
        go_wp2
        go_ret
        exact ⟨by simp, HX.out⟩
      · rw [if_neg hz]
        have HZ := hid hz
        go_wp2_with fail
        refine HRR.out.mono ?_
        rintro e w2 ⟨R', y1, y2, y3, y4, y5⟩
        obtain ⟨rfl, rfl⟩ := y5 (by rw [HCODE.out]; exact HZ.out)
        rw [HCODE.out]
        have HX : Hid (SavedTo w w2 wb mb rb own c) := by
          have e1 := HAD.out.2 HZ.out
          have rep := HREP.out
          rw [e1] at rep
          obtain ⟨own', z1, z2⟩ := HD.out.done hown (bx_only w mb rb 14 on a b cc d W (.string sb)) HL1.out rep y1 y2 y3 HD.out.ag rfl (by have := HD.out.kn; omega) (by have := HD.out.last; omega) (by have := HD.out.made; omega)
          exact ⟨own', w2, z1, z2, Or.inl rfl⟩
        clear y1 y2 y3 y4 y5 hz
        generalize A.admitCode Q = code at *
        go_wp2
        go_ret
        exact ⟨by simp, HX.out⟩
    · have HC := hid (absRestoreBad h0'.out.rep sb hs hv)
      have HR := hid (fun (w1 : World) => rrestoreBad_any w1 rb sb hs hv)
      clear hv
      go_enter Tryz.func14, Tryz.ntmps14
      go_wp2_with fail
      refine HC.out.mono ?_
      rintro e w1 ⟨rfl, rep1, l1⟩
      have HREP := hid rep1
      have HL1 := hid l1
      have hm := (hcell.out w1 oa l1).m
      have hr1 := (h0'.out.mid l1).1
      have HR1 := hid hr1
      clear rep1 l1 hr1
      go_wp2_with fail
      refine (HR.out _).mono ?_
      rintro e w2 ⟨rfl, o2⟩
      have HX : Hid (SavedTo w w2 wb mb rb own c) := by
        obtain ⟨own', z1, z2⟩ := HD.out.done hown (bx_only w mb rb 14 on a b cc d W (.string sb)) HL1.out HREP.out (HR1.out.nob o2) o2.of_nob (fun _ q => Or.inl q) HD.out.ag rfl (by have := HD.out.kn; omega) (by have := HD.out.last; omega) (by have := HD.out.made; omega)
        exact ⟨own', w2, z1, z2, Or.inl rfl⟩
      clear o2
      go_wp2
      go_ret
      exact ⟨by simp, HX.out⟩

set_option maxRecDepth 100000 in
set_option maxHeartbeats 4000000 in
theorem savesSave_any (w : World) (wb mb rb : Nat) (own : Nat → Prop) (c : Nat) (h : DuoAt w mb rb own c) (on a b cc d : Int) (W : Bool) (bs sb : ByteArray) (hc : c < big) (ha : In64 a) (hcw : w.cell? ⟨wb, 1, none⟩ = some (.string bs)) (hfw : w.frozen? ⟨wb, 1, none⟩ = false) (hlw : wb < w.heap.size) (hno : ¬ own wb) :
    Calls Tryz.prog 14 #[pt wb, mcV mb rb, opV 13 on a b cc d W (.string sb)] w fun e w' => e = .returned (.bool true) ∧ SavedTo w w' wb mb rb own c := by
  obtain ⟨oa, A, R, psi, hD, hown⟩ := h
  have HD := hid hD
  have h0' := hid (hD.only (bx_only w mb rb 13 on a b cc d W (.string sb)) (fun _ _ q => q) (fun _ _ q => q))
  have hcell := hid (fun (w1 : World) (oa' : Nat → Prop) (l1 : Left (bx w mb rb 13 on a b cc d W (.string sb)) w1 oa oa') => hD.boxes l1)
  have HO0 := hid (bx_only w mb rb 13 on a b cc d W (.string sb))
  have hcx := HO0.out.keep (fun q => q) hcw
  have hna : ¬ oa wb := fun q => hno ((hown wb).2 (Or.inl q))
  have HCW : Hid (∀ (w1 w2 : World) (oa' : Nat → Prop), Left (bx w mb rb 13 on a b cc d W (.string sb)) w1 oa oa' → Only Nob w1 w2 → w2.cell? ⟨wb, 1, none⟩ = some (.string bs) ∧ w2.frozen? ⟨wb, 1, none⟩ = false ∧ wb < w2.heap.size) := fun w1 w2 oa' l1 o2 => by
    have s1 := HO0.out.size
    have s2 := l1.only.size
    have s3 := o2.size
    refine ⟨o2.keep (fun q => q) (l1.only.keep hna (HO0.out.keep (fun q => q) hcw)), ?_, by omega⟩
    rw [o2.frozen (p := ⟨wb, 1, none⟩) (by show wb < w1.heap.size; omega) (fun q => q), l1.only.frozen (p := ⟨wb, 1, none⟩) (by show wb < _; omega) hna, HO0.out.frozen (p := ⟨wb, 1, none⟩) hlw (fun q => q)]
    exact hfw
  have HC := hid (absSave h0'.out.rep a ha (kn_lt64 HD.out.kn hc))
  unfold bx at hcx
  clear hD hcw hfw
  unfold mcV opV
  -- where o.S is empty the newest bytes are read, and not used
  have key : ∀ (hq : sb.size = 0 ∨ (sb.toList == []) = false), Calls Tryz.prog 14 #[pt wb, .agg #[pt mb, pt rb], .agg #[.int .i64 13, .int .i64 on, .int .i64 a, .int .i64 b, .int .i64 cc, .int .i64 d, .bool W, .string sb]] w fun e w' => e = .returned (.bool true) ∧ SavedTo w w' wb mb rb own c := fun hq => by
    rcases hq with hq | hq
    · have e0 := empty_of hq
      subst e0
      clear hq
      go_enter Tryz.func14, Tryz.ntmps14
      go_wp2_with fail
      refine HC.out.mono ?_
      rintro e w1 ⟨oa', rfl, rep1, l1, hgood⟩
      have HREP := hid rep1
      have HL1 := hid l1
      have HGOOD := hid hgood
      have hB := hcell.out w1 oa' l1
      have hm := hB.m
      have hx := hB.a
      have hr1 := (h0'.out.mid l1).1
      have HR1 := hid hr1
      clear rep1 l1 hgood hB hr1
      cases hf : findFrom R.L a with
      | none =>
        have hh := HD.out.ag.lost hf
        have HR := hid (rsaveNone_any w1 rb R HR1.out a hf)
        rw [hh]
        simp only [Bool.false_eq_true, if_false]
        clear hf hh
        go_wp2_with fail
        refine HR.out.mono ?_
        rintro e w2 ⟨rfl, o2⟩
        have HX : Hid (SavedTo w w2 wb mb rb own c) := by
          obtain ⟨own', z1, z2⟩ := HD.out.done hown HO0.out HL1.out HREP.out (HR1.out.nob o2) o2.of_nob (fun _ q => Or.inl q) (HD.out.ag.up 64) rfl (by have := HD.out.kn; show A.kn + 64 ≤ 70 * (c + 1); omega) (by have := HD.out.last; omega) (by have := HD.out.made; omega)
          exact ⟨own', w2, z1, z2, Or.inl rfl⟩
        clear o2
        go_wp2
        go_ret
        exact ⟨by simp, HX.out⟩
      | some G =>
        obtain ⟨hG, hN, hh⟩ := HD.out.ag.found hf
        have hgp := HD.out.ag.gpic hG
        rw [hN] at hgp
        have HR := hid (rsaveSome_any w1 rb R HR1.out a G hf (A.pic a) hgp (HGOOD.out hh))
        have HSZ : Hid ((toS (encL (A.pic a))).size ≤ maxLen) := by
          rw [Hid, toS_size, encL_len]
          have := cntF_le (A.pic a).fil 64
          unfold maxLen
          omega
        rw [hh]
        simp only [if_true]
        clear hf hh hgp hG hN
        go_wp2_with fail
        refine HR.out.mono ?_
        rintro e w2 ⟨rfl, o2⟩
        obtain ⟨d1, d2, d3⟩ := HCW.out w1 w2 oa' HL1.out o2
        have HX : Hid (∀ v : ByteArray, v.size ≤ maxLen → SavedTo w (w2.setCell ⟨wb, 1, none⟩ (.string v)) wb mb rb own c) := fun v hv => by
          obtain ⟨own', z1, z2⟩ := HD.out.done hown HO0.out HL1.out HREP.out (HR1.out.nob o2) o2.of_nob (fun _ q => Or.inl q) (HD.out.ag.up 64) rfl (by have := HD.out.kn; show A.kn + 64 ≤ 70 * (c + 1); omega) (by have := HD.out.last; omega) (by have := HD.out.made; omega)
          exact ⟨own', w2, z1, z2, Or.inr ⟨v, hv, rfl⟩⟩
        clear o2
        generalize toS (encL (A.pic a)) = TT at *
        go_wp2
        go_ret
        exact ⟨by simp, HX.out TT HSZ.out⟩
    · have he := hq
      clear hq
      go_enter Tryz.func14, Tryz.ntmps14
      go_wp2_with fail
      refine HC.out.mono ?_
      rintro e w1 ⟨oa', rfl, rep1, l1, hgood⟩
      have HREP := hid rep1
      have HL1 := hid l1
      have HGOOD := hid hgood
      have hB := hcell.out w1 oa' l1
      have hm := hB.m
      have hx := hB.a
      have hr1 := (h0'.out.mid l1).1
      have HR1 := hid hr1
      clear rep1 l1 hgood hB hr1
      cases hf : findFrom R.L a with
      | none =>
        have hh := HD.out.ag.lost hf
        have HR := hid (rsaveNone_any w1 rb R HR1.out a hf)
        rw [hh]
        simp only [Bool.false_eq_true, if_false]
        clear hf hh
        go_wp2_with fail
        refine HR.out.mono ?_
        rintro e w2 ⟨rfl, o2⟩
        have HX : Hid (SavedTo w w2 wb mb rb own c) := by
          obtain ⟨own', z1, z2⟩ := HD.out.done hown HO0.out HL1.out HREP.out (HR1.out.nob o2) o2.of_nob (fun _ q => Or.inl q) (HD.out.ag.up 64) rfl (by have := HD.out.kn; show A.kn + 64 ≤ 70 * (c + 1); omega) (by have := HD.out.last; omega) (by have := HD.out.made; omega)
          exact ⟨own', w2, z1, z2, Or.inl rfl⟩
        clear o2
        go_wp2
        go_ret
        exact ⟨by simp, HX.out⟩
      | some G =>
        obtain ⟨hG, hN, hh⟩ := HD.out.ag.found hf
        have hgp := HD.out.ag.gpic hG
        rw [hN] at hgp
        have HR := hid (rsaveSome_any w1 rb R HR1.out a G hf (A.pic a) hgp (HGOOD.out hh))
        have HSZ : Hid ((toS (encL (A.pic a))).size ≤ maxLen) := by
          rw [Hid, toS_size, encL_len]
          have := cntF_le (A.pic a).fil 64
          unfold maxLen
          omega
        rw [hh]
        simp only [if_true]
        clear hf hh hgp hG hN
        go_wp2_with fail
        refine HR.out.mono ?_
        rintro e w2 ⟨rfl, o2⟩
        obtain ⟨d1, d2, d3⟩ := HCW.out w1 w2 oa' HL1.out o2
        have HX : Hid (∀ v : ByteArray, v.size ≤ maxLen → SavedTo w (w2.setCell ⟨wb, 1, none⟩ (.string v)) wb mb rb own c) := fun v hv => by
          obtain ⟨own', z1, z2⟩ := HD.out.done hown HO0.out HL1.out HREP.out (HR1.out.nob o2) o2.of_nob (fun _ q => Or.inl q) (HD.out.ag.up 64) rfl (by have := HD.out.kn; show A.kn + 64 ≤ 70 * (c + 1); omega) (by have := HD.out.last; omega) (by have := HD.out.made; omega)
          exact ⟨own', w2, z1, z2, Or.inr ⟨v, hv, rfl⟩⟩
        clear o2
        generalize toS (encL (A.pic a)) = TT at *
        go_wp2
        go_ret
        exact ⟨by simp, HX.out TT HSZ.out⟩
  by_cases h0 : sb.size = 0
  · exact key (Or.inl h0)
  · exact key (Or.inr (empty_list h0))
end
end Go.Proofs.YtfcepnhknmbaaaaGreat
