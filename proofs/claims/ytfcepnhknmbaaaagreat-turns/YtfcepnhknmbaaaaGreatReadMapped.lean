/- The contract of a reader's mapped: form 3. -/
import Derived.Test.YtfcepnhknmbaaaaGreatReadM
import Derived.Test.YtfcepnhknmbaaaaGreatSealM
namespace Go.Proofs.YtfcepnhknmbaaaaGreat
open Go.RowKit Go.Deep

/-- A page of its own. -/
def onePic (a b : Bool) (ws : Nat → Int) : Pic := ⟨0, fun _ => a, fun _ => b, fun _ k => ws k⟩

def mQ (P : Pic) (p : Nat) (a b : Bool) (ws : Nat → Int) : Pic := ⟨P.root, fun q => if q = p then a else P.pr q, fun q => if q = p then b else P.wr q, fun q k => if q = p then ws k else P.wd q k⟩

/-- What is known at page p. -/
structure MRel (w wr : World) (rb gb : Nat) (s : ByteArray) (F : Nat → Value) (r : Int) (X Y Z k0 : Nat) (x0 : Bool) (p k' : Nat) (x' : Bool) (P : Pic) : Prop where
  rd : Rd wr rb s k' x' F
  row : ∃ t, wr.rowIs gb t 641 (picCell P)
  only : Only (RdTwo rb gb) w wr
  root : P.root = r
  pr : ∀ q, P.pr q = if q < p then bit X q else false
  wr : ∀ q, P.wr q = if q < p then bit Y q else false
  iff : x' = false ↔ (x0 = false ∧ k0 + 16 * cntF (bit Z) p ≤ s.size ∧ ∀ q, q < p → bit Z q = true → ∃ k, k < 8 ∧ wordAt false (nats s) (k0 + 16 * cntF (bit Z) q) k ≠ 0)
  pos : x' = false → k' = k0 + 16 * cntF (bit Z) p ∧ ∀ q k, q < p → k < 8 → P.wd q k = if bit Z q then wordAt false (nats s) (k0 + 16 * cntF (bit Z) q) k else 0

theorem one_fil (a b : Bool) (ws : Nat → Int) : (onePic a b ws).fil 0 = true ↔ ∃ k, k < 8 ∧ ws k ≠ 0 := by
  simp only [Pic.fil, onePic, List.any_eq_true, List.mem_range, bne_iff_ne]
theorem cntF_succ (f : Nat → Bool) (p : Nat) : cntF f (p + 1) = cntF f p + if f p then 1 else 0 := rfl

/-- A page without words. -/
theorem MRel.none {w wr w2 : World} {rb gb : Nat} {s : ByteArray} {F : Nat → Value} {r : Int} {X Y Z k0 p k' : Nat} {x0 x' : Bool} {P Q : Pic} (h : MRel w wr rb gb s F r X Y Z k0 x0 p k' x' P) (hz : bit Z p = false)
    (hQ : Q.root = P.root ∧ Q.pr = (fun q => if q = p then bit X p else P.pr q) ∧ Q.wr = (fun q => if q = p then bit Y p else P.wr q) ∧ Q.wd = (fun q k => if q = p then 0 else P.wd q k))
    (hrd : Rd w2 rb s k' x' F) (hrow : ∃ t, w2.rowIs gb t 641 (picCell Q)) (ho : Only (RdTwo rb gb) w w2) : MRel w w2 rb gb s F r X Y Z k0 x0 (p + 1) k' x' Q := by
  obtain ⟨q0, q1, q2, q3⟩ := hQ
  have hc : cntF (bit Z) (p + 1) = cntF (bit Z) p := by rw [cntF_succ, hz]; rfl
  refine ⟨hrd, hrow, ho, by rw [q0]; exact h.root, fun q => ?_, fun q => ?_, ?_, fun q => ?_⟩
  · rw [q1]
    dsimp only
    by_cases e : q = p
    · rw [if_pos e, if_pos (by omega), e]
    · rw [if_neg e, h.pr q]
      by_cases e2 : q < p
      · rw [if_pos e2, if_pos (by omega)]
      · rw [if_neg e2, if_neg (by omega)]
  · rw [q2]
    dsimp only
    by_cases e : q = p
    · rw [if_pos e, if_pos (by omega), e]
    · rw [if_neg e, h.wr q]
      by_cases e2 : q < p
      · rw [if_pos e2, if_pos (by omega)]
      · rw [if_neg e2, if_neg (by omega)]
  · rw [h.iff, hc]
    constructor
    · rintro ⟨a, b, c⟩
      refine ⟨a, b, fun q hq hb => ?_⟩
      by_cases e : q = p
      · rw [e, hz] at hb; cases hb
      · exact c q (by omega) hb
    · rintro ⟨a, b, c⟩
      exact ⟨a, b, fun q hq hb => c q (by omega) hb⟩
  · obtain ⟨a, b⟩ := h.pos q
    refine ⟨by rw [hc]; exact a, fun q k hq hk => ?_⟩
    rw [q3]
    dsimp only
    by_cases e : q = p
    · rw [if_pos e, e, hz]; rfl
    · rw [if_neg e]; exact b q k (by omega) hk

/-- A page with words. -/
theorem MRel.some {w wr w2 : World} {rb gb : Nat} {s : ByteArray} {F : Nat → Value} {r : Int} {X Y Z k0 p k' k2 : Nat} {x0 x' x2 x3 : Bool} {P Q : Pic} {ws : Nat → Int} (h : MRel w wr rb gb s F r X Y Z k0 x0 p k' x' P) (hz : bit Z p = true)
    (g : Got s.size k' x' k2 x2 16) (hw : x2 = false → ws = fun j => wordAt false (nats s) k' j) (hx3 : x3 = (x2 || !((onePic (bit X p) (bit Y p) ws).fil 0)))
    (hQ : Q.root = P.root ∧ Q.pr = (fun q => if q = p then bit X p else P.pr q) ∧ Q.wr = (fun q => if q = p then bit Y p else P.wr q) ∧ Q.wd = (fun q k => if q = p then ws k else P.wd q k))
    (hrd : Rd w2 rb s k2 x3 F) (hrow : ∃ t, w2.rowIs gb t 641 (picCell Q)) (ho : Only (RdTwo rb gb) w w2) : MRel w w2 rb gb s F r X Y Z k0 x0 (p + 1) k2 x3 Q := by
  obtain ⟨q0, q1, q2, q3⟩ := hQ
  have hc : cntF (bit Z) (p + 1) = cntF (bit Z) p + 1 := by rw [cntF_succ, hz]; rfl
  refine ⟨hrd, hrow, ho, by rw [q0]; exact h.root, fun q => ?_, fun q => ?_, ?_, fun q => ?_⟩
  · rw [q1]
    dsimp only
    by_cases e : q = p
    · rw [if_pos e, if_pos (by omega), e]
    · rw [if_neg e, h.pr q]
      by_cases e2 : q < p
      · rw [if_pos e2, if_pos (by omega)]
      · rw [if_neg e2, if_neg (by omega)]
  · rw [q2]
    dsimp only
    by_cases e : q = p
    · rw [if_pos e, if_pos (by omega), e]
    · rw [if_neg e, h.wr q]
      by_cases e2 : q < p
      · rw [if_pos e2, if_pos (by omega)]
      · rw [if_neg e2, if_neg (by omega)]
  · rw [hx3, Bool.or_eq_false_iff, hc]
    constructor
    · rintro ⟨a, b⟩
      have ha := g.left a
      obtain ⟨c1, c2, c3⟩ := h.iff.1 ha
      have c4 := (h.pos ha).1
      have c5 := (g.iff.1 a).2
      refine ⟨c1, by omega, fun q hq hb => ?_⟩
      by_cases e : q = p
      · rw [e, ← c4]
        have b' : (onePic (bit X p) (bit Y p) ws).fil 0 = true := by simpa using b
        rw [hw a] at b'
        exact (one_fil _ _ _).1 b'
      · exact c3 q (by omega) hb
    · rintro ⟨a, b, c⟩
      have ha : x' = false := h.iff.2 ⟨a, by omega, fun q hq hb => c q (by omega) hb⟩
      have c4 := (h.pos ha).1
      have hx2 : x2 = false := g.iff.2 ⟨ha, by omega⟩
      refine ⟨hx2, ?_⟩
      have := c p (by omega) hz
      rw [← c4] at this
      have b' : (onePic (bit X p) (bit Y p) ws).fil 0 = true := by
        rw [hw hx2]
        exact (one_fil _ _ _).2 this
      simpa using b'
  · rw [hx3, Bool.or_eq_false_iff] at q
    have ha := g.left q.1
    obtain ⟨a, b⟩ := h.pos ha
    refine ⟨by rw [g.pos q.1, hc]; omega, fun q' k hq hk => ?_⟩
    rw [q3]
    dsimp only
    by_cases e : q' = p
    · rw [if_pos e, e, hz, if_pos rfl, hw q.1, a]
    · rw [if_neg e]; exact b q' k (by omega) hk

theorem row_eight {w : World} {pb : Nat} {t : TypeId} {P : Pic} (r : w.rowIs pb t 10 (pageCell P 0)) (f : Nat → Int) (Q : Pic) (hQ : Q.pr 0 = P.pr 0 ∧ Q.wr 0 = P.wr 0 ∧ Q.wd 0 = f) :
    ((((((((w.setCell ⟨pb, 2, none⟩ (.int .u16 (f 0))).setCell ⟨pb, 3, none⟩ (.int .u16 (f 1))).setCell ⟨pb, 4, none⟩ (.int .u16 (f 2))).setCell ⟨pb, 5, none⟩ (.int .u16 (f 3))).setCell ⟨pb, 6, none⟩ (.int .u16 (f 4))).setCell ⟨pb, 7, none⟩ (.int .u16 (f 5))).setCell ⟨pb, 8, none⟩ (.int .u16 (f 6))).setCell ⟨pb, 9, none⟩ (.int .u16 (f 7))).rowIs pb t 10 (pageCell Q 0) := by
  refine ((((((((r.set _ _).set _ _).set _ _).set _ _).set _ _).set _ _).set _ _).set _ _).congr (fun i hi => ?_)
  obtain ⟨q1, q2, q3⟩ := hQ
  have e : i = 0 ∨ i = 1 ∨ i = 2 ∨ i = 3 ∨ i = 4 ∨ i = 5 ∨ i = 6 ∨ i = 7 ∨ i = 8 ∨ i = 9 := by omega
  rcases e with e | e | e | e | e | e | e | e | e | e <;> subst e <;> simp [pageCell, q1, q2, q3]

set_option maxRecDepth 100000 in
set_option maxHeartbeats 4000000 in
theorem mapped_any {w : World} {rb gb : Nat} {s : ByteArray} {h : Nat} {x : Bool} {F : Nat → Value} {t : TypeId} {r : Int} (hR : Rd w rb s h x F) (hs : s.size ≤ maxLen) (hF5 : F 5 = .func (.func 121) #[pt rb] #[])
   (hP : w.rowIs gb t 641 (picCell (zeroPic r))) (hne : rb ≠ gb) :
    Calls Tryz.prog 122 #[pt rb, .pointer (some ⟨gb, 1, none⟩)] w fun e w' => ∃ (k' : Nat) (x' : Bool) (P : Pic) (X Y Z k3 : Nat) (x3 x4 : Bool), e = .returned (.tuple #[]) ∧ MRel w w' rb gb s F r X Y Z k3 x4 64 k' x' P ∧ Got s.size h x k3 x3 24 ∧ (x4 = false ↔ x3 = false ∧ ∀ p, p < 64 → bit Y p = true ∨ bit Z p = true → bit X p = true) ∧
      (x3 = false → X = numTo (nats s) h 8 ∧ Y = numTo (nats s) (h + 8) 8 ∧ Z = numTo (nats s) (h + 16) 8) := by
  have HF5 := hid hF5
  have hgl := hP.lt
  have hrl := hR.lt
  have HP := hid hP
  clear hF5 hP
  go_enter Tryz.func122, Tryz.ntmps122
  go_wp2_with fail
  refine (bits_any hR hs).mono ?_
  rintro e w1 ⟨k1, x1, X, rfl, h1, ho1, g1, hX, hX2⟩
  go_wp2_with fail
  refine (bits_any h1 hs).mono ?_
  rintro e w2 ⟨k2, x2, Y, rfl, h2, ho2, g2, hY, hY2⟩
  go_wp2_with fail
  refine (bits_any h2 hs).mono ?_
  rintro e w3 ⟨k3, x3, Z, rfl, h3, ho3, g3, hZ, hZ2⟩
  have HG : Hid (Got s.size h x k3 x3 24) := (g1.trans g2).trans g3
  have HN : Hid (x3 = false → X = numTo (nats s) h 8 ∧ Y = numTo (nats s) (h + 8) 8 ∧ Z = numTo (nats s) (h + 16) 8) := fun q => by
    have q2 := g3.left q
    have q1 := g2.left q2
    have p1 := g1.pos q1
    have p2 := g2.pos q2
    refine ⟨hX2 q1, ?_, ?_⟩
    · rw [hY2 q2, p1]
    · rw [hZ2 q, p2, p1]
  have HX := hid hX
  have HY := hid hY
  have HZ := hid hZ
  have hO3 : Only (One rb) w w3 := (ho1.trans ho2).trans ho3
  clear hX hX2 hY hY2 hZ hZ2 g1 g2 g3 ho1 ho2 ho3 h1 h2 hR
  go_wp2_with fail
  refine (require_any h3 _).mono ?_
  rintro e w4 ⟨rfl, h4, ho4⟩
  obtain ⟨x4, hx4⟩ : ∃ x4, x4 = (x3 || !(bits BinOp.andNot IntKind.u64 (bits BinOp.or IntKind.u64 (Y : Int) (Z : Int)) (X : Int) == 0)) := ⟨_, rfl⟩
  rw [← hx4] at h4
  have HX4 : Hid (x4 = false ↔ x3 = false ∧ ∀ p, p < 64 → bit Y p = true ∨ bit Z p = true → bit X p = true) := by
    rw [Hid, hx4, Bool.or_eq_false_iff, ← andNot64 HX.out HY.out HZ.out]
    simp only [Bool.not_eq_false']
  have H0 : Hid (MRel w w4 rb gb s F r X Y Z k3 x4 0 k3 x4 (zeroPic r)) := by
    have hO4 := hO3.trans ho4
    refine ⟨h4, ⟨t, hO4.row HP.out (fun q => hne q.symm)⟩, hO4.mono (fun b _ q => Or.inl q), rfl, fun q => ?_, fun q => ?_, ?_, fun _ => ⟨by simp [cntF], fun q k hq => by omega⟩⟩
    · rw [if_neg (by omega)]; rfl
    · rw [if_neg (by omega)]; rfl
    · have := h4.le
      constructor
      · intro q; exact ⟨q, by simp only [cntF]; omega, fun q hq => by omega⟩
      · rintro ⟨q, _⟩; exact q
  clear hx4 h4 h3 hO3 ho4
  go_wp2_with fail
  go_loopw [24] (fun c wr => ∃ (p k' : Nat) (x' : Bool) (P : Pic), p ≤ 64 ∧ c = .int .i64 p ∧ MRel w wr rb gb s F r X Y Z k3 x4 p k' x' P) (fun c _ => 64 - (intOf c).toNat)
  case atStart => exact ⟨0, k3, x4, zeroPic r, by omega, rfl, H0.out⟩
  case round =>
    clear H0
    obtain ⟨p, k', x', P, hp, rfl, hRel⟩ := hrel
    have HRel := hid hRel
    have hws := hRel.only.size
    obtain ⟨tr, hrow⟩ := hRel.row
    have HRow := hid hrow
    have h5 := hRel.rd
    have hgw : gb < wr.heap.size := hrow.lt
    have hrw : rb < wr.heap.size := h5.lt
    clear hRel hrow
    by_cases hlt : p < 64
    · have ex := and64 HX.out hlt
      have ey := and64 HY.out hlt
      have ez := and64 HZ.out hlt
      cases hz : bit Z p with
      | false =>
        rw [hz] at ez
        obtain ⟨pc, hfz⟩ := page_cells HRow.out hlt
        obtain ⟨v0, z0⟩ := pc 0 (by omega)
        obtain ⟨v1, z1⟩ := pc 1 (by omega)
        obtain ⟨v2, z2⟩ := pc 2 (by omega)
        obtain ⟨v3, z3⟩ := pc 3 (by omega)
        obtain ⟨v4, z4⟩ := pc 4 (by omega)
        obtain ⟨v5, z5⟩ := pc 5 (by omega)
        obtain ⟨v6, z6⟩ := pc 6 (by omega)
        obtain ⟨v7, z7⟩ := pc 7 (by omega)
        obtain ⟨v8, z8⟩ := pc 8 (by omega)
        obtain ⟨v9, z9⟩ := pc 9 (by omega)
        rw [Nat.add_zero] at z0
        clear pc
        go_wp2_with fail
        go_region
        all_goals
          have o10 : Only (One gb) wr ((((((((((wr.setCell ⟨gb, 1 + p * 10, none⟩ (.bool (bit X p))).setCell ⟨gb, 1 + p * 10 + 1, none⟩ (.bool (bit Y p))).setCell ⟨gb, 1 + p * 10 + 2, none⟩ (.int .u16 0)).setCell ⟨gb, 1 + p * 10 + 3, none⟩ (.int .u16 0)).setCell ⟨gb, 1 + p * 10 + 4, none⟩ (.int .u16 0)).setCell ⟨gb, 1 + p * 10 + 5, none⟩ (.int .u16 0)).setCell ⟨gb, 1 + p * 10 + 6, none⟩ (.int .u16 0)).setCell ⟨gb, 1 + p * 10 + 7, none⟩ (.int .u16 0)).setCell ⟨gb, 1 + p * 10 + 8, none⟩ (.int .u16 0)).setCell ⟨gb, 1 + p * 10 + 9, none⟩ (.int .u16 0)) := (((((((((((Only.refl _ _).setOne _ _).setOne _ _).setOne _ _).setOne _ _).setOne _ _).setOne _ _).setOne _ _).setOne _ _).setOne _ _).setOne _ _)
          have HX1 := hid (HRel.out.none (Q := mQ P p (bit X p) (bit Y p) (fun _ => 0)) hz ⟨rfl, rfl, rfl, rfl⟩ ((h5.only o10 hne).nob ((Only.refl Nob _).alloc (.cells #[.bool (bit X p), .bool (bit Y p), .int .u16 0, .int .u16 0, .int .u16 0, .int .u16 0, .int .u16 0, .int .u16 0, .int .u16 0, .int .u16 0] 88)).drew) ⟨_, (((row_put HRow.out (bit X p) (bit Y p) (fun _ => 0) (mQ P p (bit X p) (bit Y p) (fun _ => 0)) ⟨rfl, rfl, rfl, rfl⟩).alloc _)).drew⟩ (((HRel.out.only.trans (o10.mono (fun b _ q => Or.inr q))).alloc _).drew))
          clear o10 z0 z1 z2 z3 z4 z5 z6 z7 z8 z9 hfz
          go_wp2_with fail
          go_roundw
          case rel => exact ⟨p + 1, _, _, _, by omega, by go_num, HX1.out⟩
          case measure => simp [intOf]; omega
      | true =>
        rw [hz] at ez
        have r0 : (wr.alloc (.cells #[.bool (bit X p), .bool (bit Y p), .int .u16 0, .int .u16 0, .int .u16 0, .int .u16 0, .int .u16 0, .int .u16 0, .int .u16 0, .int .u16 0] 88)).rowIs wr.heap.size 88 10 (pageCell (onePic (bit X p) (bit Y p) (fun _ => 0)) 0) := World.rowIs_alloc wr _ 88 _ (fun i hi => by
          have hi : i < 10 := hi
          have e : i = 0 ∨ i = 1 ∨ i = 2 ∨ i = 3 ∨ i = 4 ∨ i = 5 ∨ i = 6 ∨ i = 7 ∨ i = 8 ∨ i = 9 := by omega
          rcases e with e | e | e | e | e | e | e | e | e | e <;> subst e <;> rfl)
        have R0 := hid r0
        have h5' := h5.nob ((Only.refl Nob wr).alloc (.cells #[.bool (bit X p), .bool (bit Y p), .int .u16 0, .int .u16 0, .int .u16 0, .int .u16 0, .int .u16 0, .int .u16 0, .int .u16 0, .int .u16 0] 88))
        clear r0 h5
        go_wp2_with fail
        refine (wordsLow_all h5' hs HF5.out).mono ?_
        rintro e w6 ⟨k6, x6, ws, rfl, h6, ho6, g6, hws'⟩
        have HG6 := hid (And.intro g6 hws')
        have hs6 := ho6.size
        rw [World.size_alloc] at hs6
        have r6 := ho6.row R0.out (fun q => by simp only [One] at q; omega)
        have R6 := hid r6
        have HROW6 := hid (ho6.row (HRow.out.alloc _) (fun q => hne q.symm))
        have HO6 : Hid (Only (RdTwo rb gb) w w6) := (HRel.out.only.alloc _).trans (ho6.mono (fun b _ q => Or.inl q))
        have y0 : w6.cell? ⟨wr.heap.size, 0, none⟩ = some (.bool (bit X p)) := r6.cell (show 0 < 10 by omega)
        have y1 : w6.cell? ⟨wr.heap.size, 1, none⟩ = some (.bool (bit Y p)) := r6.cell (show 1 < 10 by omega)
        have y2 : w6.cell? ⟨wr.heap.size, 2, none⟩ = some (.int .u16 0) := r6.cell (show 2 < 10 by omega)
        have y3 : w6.cell? ⟨wr.heap.size, 3, none⟩ = some (.int .u16 0) := r6.cell (show 3 < 10 by omega)
        have y4 : w6.cell? ⟨wr.heap.size, 4, none⟩ = some (.int .u16 0) := r6.cell (show 4 < 10 by omega)
        have y5 : w6.cell? ⟨wr.heap.size, 5, none⟩ = some (.int .u16 0) := r6.cell (show 5 < 10 by omega)
        have y6 : w6.cell? ⟨wr.heap.size, 6, none⟩ = some (.int .u16 0) := r6.cell (show 6 < 10 by omega)
        have y7 : w6.cell? ⟨wr.heap.size, 7, none⟩ = some (.int .u16 0) := r6.cell (show 7 < 10 by omega)
        have y8 : w6.cell? ⟨wr.heap.size, 8, none⟩ = some (.int .u16 0) := r6.cell (show 8 < 10 by omega)
        have y9 : w6.cell? ⟨wr.heap.size, 9, none⟩ = some (.int .u16 0) := r6.cell (show 9 < 10 by omega)
        have fz := r6.frozen
        clear r6 g6 hws' ho6 h5'
        go_wp2_with fail
        refine (isFilled_any _ (onePic (bit X p) (bit Y p) ws) 0).mono ?_
        rintro e w7 ⟨rfl, ho7⟩
        have o8 : Only (One wr.heap.size) w6 ((((((((w6.setCell ⟨wr.heap.size, 2, none⟩ (.int .u16 (ws 0))).setCell ⟨wr.heap.size, 3, none⟩ (.int .u16 (ws 1))).setCell ⟨wr.heap.size, 4, none⟩ (.int .u16 (ws 2))).setCell ⟨wr.heap.size, 5, none⟩ (.int .u16 (ws 3))).setCell ⟨wr.heap.size, 6, none⟩ (.int .u16 (ws 4))).setCell ⟨wr.heap.size, 7, none⟩ (.int .u16 (ws 5))).setCell ⟨wr.heap.size, 8, none⟩ (.int .u16 (ws 6))).setCell ⟨wr.heap.size, 9, none⟩ (.int .u16 (ws 7))) := (((((((((Only.refl _ _).setOne _ _).setOne _ _).setOne _ _).setOne _ _).setOne _ _).setOne _ _).setOne _ _).setOne _ _)
        have r7 := ho7.row (row_eight R6.out ws (onePic (bit X p) (bit Y p) ws) ⟨rfl, rfl, rfl⟩) (fun q => q)
        have h7 := (h6.only o8 (fun q => by simp only [One] at q; omega)).nob ho7
        have HROW7 := hid (ho7.row (o8.row HROW6.out (fun q => by simp only [One] at q; omega)) (fun q => q))
        have HO7 : Hid (Only (RdTwo rb gb) w w7) := (HO6.out.after o8 (fun b hb q => by simp only [One] at q; omega)).trans ho7.of_nob
        have R7 := hid r7
        clear o8 ho7 r7 y0 y1 y2 y3 y4 y5 y6 y7 y8 y9 fz h6 HO6 HROW6 R6 R0
        go_wp2_with fail
        refine (require_any h7 _).mono ?_
        rintro e w8 ⟨rfl, h8, ho8⟩
        have r8 := ho8.row R7.out (fun q => by simp only [One] at q; omega)
        have HROW8 := hid (ho8.row HROW7.out (fun q => hne q.symm))
        have HO8 : Hid (Only (RdTwo rb gb) w w8) := HO7.out.trans (ho8.mono (fun b _ q => Or.inl q))
        have y0 : w8.cell? ⟨wr.heap.size, 0, none⟩ = some (.bool (bit X p)) := r8.cell (show 0 < 10 by omega)
        have y1 : w8.cell? ⟨wr.heap.size, 1, none⟩ = some (.bool (bit Y p)) := r8.cell (show 1 < 10 by omega)
        have y2 : w8.cell? ⟨wr.heap.size, 2, none⟩ = some (.int .u16 (ws 0)) := r8.cell (show 2 < 10 by omega)
        have y3 : w8.cell? ⟨wr.heap.size, 3, none⟩ = some (.int .u16 (ws 1)) := r8.cell (show 3 < 10 by omega)
        have y4 : w8.cell? ⟨wr.heap.size, 4, none⟩ = some (.int .u16 (ws 2)) := r8.cell (show 4 < 10 by omega)
        have y5 : w8.cell? ⟨wr.heap.size, 5, none⟩ = some (.int .u16 (ws 3)) := r8.cell (show 5 < 10 by omega)
        have y6 : w8.cell? ⟨wr.heap.size, 6, none⟩ = some (.int .u16 (ws 4)) := r8.cell (show 6 < 10 by omega)
        have y7 : w8.cell? ⟨wr.heap.size, 7, none⟩ = some (.int .u16 (ws 5)) := r8.cell (show 7 < 10 by omega)
        have y8 : w8.cell? ⟨wr.heap.size, 8, none⟩ = some (.int .u16 (ws 6)) := r8.cell (show 8 < 10 by omega)
        have y9 : w8.cell? ⟨wr.heap.size, 9, none⟩ = some (.int .u16 (ws 7)) := r8.cell (show 9 < 10 by omega)
        clear r8 ho8 h7 HROW7 HO7 R7
        obtain ⟨pc, hfz⟩ := page_cells HROW8.out hlt
        obtain ⟨v0, z0⟩ := pc 0 (by omega)
        obtain ⟨v1, z1⟩ := pc 1 (by omega)
        obtain ⟨v2, z2⟩ := pc 2 (by omega)
        obtain ⟨v3, z3⟩ := pc 3 (by omega)
        obtain ⟨v4, z4⟩ := pc 4 (by omega)
        obtain ⟨v5, z5⟩ := pc 5 (by omega)
        obtain ⟨v6, z6⟩ := pc 6 (by omega)
        obtain ⟨v7, z7⟩ := pc 7 (by omega)
        obtain ⟨v8, z8⟩ := pc 8 (by omega)
        obtain ⟨v9, z9⟩ := pc 9 (by omega)
        rw [Nat.add_zero] at z0
        clear pc
        go_wp2_with fail
        go_region
        all_goals
          have o10 : Only (One gb) w8 ((((((((((w8.setCell ⟨gb, 1 + p * 10, none⟩ (.bool (bit X p))).setCell ⟨gb, 1 + p * 10 + 1, none⟩ (.bool (bit Y p))).setCell ⟨gb, 1 + p * 10 + 2, none⟩ (.int .u16 (ws 0))).setCell ⟨gb, 1 + p * 10 + 3, none⟩ (.int .u16 (ws 1))).setCell ⟨gb, 1 + p * 10 + 4, none⟩ (.int .u16 (ws 2))).setCell ⟨gb, 1 + p * 10 + 5, none⟩ (.int .u16 (ws 3))).setCell ⟨gb, 1 + p * 10 + 6, none⟩ (.int .u16 (ws 4))).setCell ⟨gb, 1 + p * 10 + 7, none⟩ (.int .u16 (ws 5))).setCell ⟨gb, 1 + p * 10 + 8, none⟩ (.int .u16 (ws 6))).setCell ⟨gb, 1 + p * 10 + 9, none⟩ (.int .u16 (ws 7))) := (((((((((((Only.refl _ _).setOne _ _).setOne _ _).setOne _ _).setOne _ _).setOne _ _).setOne _ _).setOne _ _).setOne _ _).setOne _ _).setOne _ _)
          have HX1 := hid (HRel.out.some (x3 := x6 || !((onePic (bit X p) (bit Y p) ws).fil 0)) (Q := mQ P p (bit X p) (bit Y p) ws) hz HG6.out.1 HG6.out.2 rfl ⟨rfl, rfl, rfl, rfl⟩ ((h8.only o10 hne).nob (Only.refl Nob _).drew) ⟨_, (row_put HROW8.out (bit X p) (bit Y p) ws (mQ P p (bit X p) (bit Y p) ws) ⟨rfl, rfl, rfl, rfl⟩).drew⟩ ((HO8.out.trans (o10.mono (fun b _ q => Or.inr q))).drew))
          clear o10 z0 z1 z2 z3 z4 z5 z6 z7 z8 z9 y0 y1 y2 y3 y4 y5 y6 y7 y8 y9 hfz
          go_wp2_with fail
          go_roundw
          case rel => exact ⟨p + 1, _, _, _, by omega, by go_num, HX1.out⟩
          case measure => simp [intOf]; omega
    · have e64 : p = 64 := by omega
      subst e64
      go_wp2_with fail
      go_end0
      exact ⟨k', x', P, X, Y, Z, k3, x3, x4, rfl, HRel.out, HG.out, HX4.out, HN.out⟩
end Go.Proofs.YtfcepnhknmbaaaaGreat
