/- A guest that is read from bytes, as it comes to lie: page, rooted. -/
import Derived.Test.YtfcepnhknmbaaaaGreatRefBytesA
import Derived.Test.YtfcepnhknmbaaaaGreatRefTopM
namespace Go.Proofs.YtfcepnhknmbaaaaGreat
open Go.RowKit Go.Deep

/-- A new guest: it and its pages lie in blocks of their own, behind w0's. -/
structure GNew (w0 w : World) (G : RG) (Wd : Nat → Nat → Int) : Prop where
  lie : GLie w G Wd
  o : Only Nob w0 w
  lo : w0.heap.size ≤ G.gb
  plo : ∀ p b, p < 64 → G.P p = some b → w0.heap.size ≤ b ∧ b ≠ G.gb
  inj : ∀ p q b, p < 64 → q < 64 → G.P p = some b → G.P q = some b → p = q

def wdPut (Wd : Nat → Nat → Int) (nb : Nat) (f : Nat → Int) (b k : Nat) : Int := if b = nb then f k else Wd b k

theorem GNew.nob {w0 w w' : World} {G : RG} {Wd : Nat → Nat → Int} (h : GNew w0 w G Wd) (o : Only Nob w w') : GNew w0 w' G Wd := ⟨h.lie.nob o, h.o.trans o, h.lo, h.plo, h.inj⟩

/-- A page has come to lie in a block of its own; it is put in its place. -/
theorem GNew.put {w0 w w1 : World} {G : RG} {Wd : Nat → Nat → Int} (h : GNew w0 w G Wd) (o : Only Nob w w1) {nb : Nat} {t : TypeId} {i : Int} {f : Nat → Int} (hn : w.heap.size ≤ nb) (r : w1.rowIs nb t 9 (pgC i f)) {p : Nat} {b : Bool} :
    GNew w0 ((w1.setCell ⟨G.gb, 2 + p * 2, none⟩ (pt nb)).setCell ⟨G.gb, 2 + p * 2 + 1, none⟩ (.bool b)) (G.set p (some nb) b) (wdPut Wd nb f) := by
  have h1 := h.nob o
  have hlt := h.lie.lt
  have hne : nb ≠ G.gb := by omega
  have hs := h.o.size
  obtain ⟨tg, rg⟩ := h1.lie.row
  have hP : ∀ q, (G.set p (some nb) b).P q = if q = p then some nb else G.P q := fun _ => rfl
  have hold : ∀ q x, q < 64 → G.P q = some x → x ≠ nb := fun q x hq e => by
    have := h.lie.pageLt hq e
    omega
  refine ⟨⟨⟨tg, ((rg.set _ _).set _ _).congr (fun j hj => (setAt_cell G p (some nb) b j hj).symm)⟩, fun q x hq e => ?_⟩, ?_, h.lo, fun q x hq e => ?_, fun q q' x hq hq' e e' => ?_⟩
  · rw [hP] at e
    by_cases c : q = p
    · rw [if_pos c] at e
      injection e with e
      subst e
      refine ⟨t, i, ((r.setOther hne _).setOther hne _).congr (fun j _ => ?_)⟩
      simp only [pgC, wdPut, if_true]
    · rw [if_neg c] at e
      obtain ⟨t', i', r'⟩ := h1.lie.ps q x hq e
      have hx := (h.plo q x hq e).2
      refine ⟨t', i', ((r'.setOther hx _).setOther hx _).congr (fun j _ => ?_)⟩
      simp only [pgC, wdPut, if_neg (hold q x hq e)]
  · exact h1.o.after (((Only.refl (One G.gb) w1).setCell (p := ⟨G.gb, 2 + p * 2, none⟩) (fun _ => rfl) _).setCell (p := ⟨G.gb, 2 + p * 2 + 1, none⟩) (fun _ => rfl) _) (fun x hx e => by
      have e : x = G.gb := e
      have := h.lo
      omega)
  · rw [hP] at e
    by_cases c : q = p
    · rw [if_pos c] at e
      injection e with e
      subst e
      exact ⟨by omega, hne⟩
    · rw [if_neg c] at e
      exact h.plo q x hq e
  · rw [hP] at e e'
    by_cases c : q = p <;> by_cases c' : q' = p
    · rw [c, c']
    · rw [if_pos c] at e
      rw [if_neg c'] at e'
      injection e with e
      exact (hold q' x hq' e' e.symm).elim
    · rw [if_neg c] at e
      rw [if_pos c'] at e'
      injection e' with e'
      exact (hold q x hq e e'.symm).elim
    · rw [if_neg c] at e
      rw [if_neg c'] at e'
      exact h.inj q q' x hq hq' e e'

/-- The picture behind it. -/
theorem GPic.put {G : RG} {Wd : Nat → Nat → Int} {P : Pic} (h : GPic G Wd P) {nb p : Nat} {b : Bool} {f : Nat → Int} (hn : ∀ q x, q < 64 → G.P q = some x → x ≠ nb) (_hp : p < 64) : GPic (G.set p (some nb) b) (wdPut Wd nb f) (P.put p b f) := by
  have hP : ∀ q, (G.set p (some nb) b).P q = if q = p then some nb else G.P q := fun _ => rfl
  have hW : ∀ q, (G.set p (some nb) b).Wr q = if q = p then b else G.Wr q := fun _ => rfl
  refine ⟨h.root, fun q hq => ?_, fun q x hq e => ?_, fun q x hq e k hk => ?_, fun q hq e => ?_⟩
  · show (if q = p then true else P.pr q) = _
    rw [hP]
    by_cases c : q = p
    · rw [if_pos c, if_pos c]; rfl
    · rw [if_neg c, if_neg c]; exact h.pr q hq
  · show (if q = p then b else P.wr q) = _
    rw [hW]
    rw [hP] at e
    by_cases c : q = p
    · rw [if_pos c, if_pos c]
    · rw [if_neg c] at e
      rw [if_neg c, if_neg c]; exact h.wr q x hq e
  · show _ = if q = p then f k else P.wd q k
    rw [hP] at e
    by_cases c : q = p
    · rw [if_pos c] at e
      injection e with e
      rw [if_pos c, wdPut, if_pos e.symm]
    · rw [if_neg c] at e
      rw [if_neg c, wdPut, if_neg (hn q x hq e)]
      exact h.wd q x hq e k hk
  · rw [hP] at e
    by_cases c : q = p
    · rw [if_pos c] at e; cases e
    · rw [if_neg c] at e
      have := h.no q hq e
      refine ⟨?_, fun k hk => ?_⟩
      · show (if q = p then b else P.wr q) = false
        rw [if_neg c]; exact this.1
      · show (if q = p then f k else P.wd q k) = 0
        rw [if_neg c]; exact this.2 k hk

def gst0 (r : Int) (gb : Nat) : RG := ⟨0, r, gb, fun _ => none, fun _ => false⟩
theorem gst0_pic (r : Int) (gb : Nat) (Wd : Nat → Nat → Int) : GPic (gst0 r gb) Wd (zeroPic r) := ⟨rfl, fun _ _ => rfl, fun _ _ _ e => (by cases e), fun _ _ _ e => (by cases e), fun _ _ _ => ⟨rfl, fun _ _ => rfl⟩⟩

def rootedCells (zc : Array Value) (r : Int) : Array Value := zc.setIfInBounds 1 (Value.int IntKind.i64 r)
theorem rootedCells_size (r : Int) : (rootedCells Tryz.zeroCells80 r).size = 130 := by rw [rootedCells, Array.size_setIfInBounds, zc126_size]
theorem rootedCells_at (r : Int) (gb : Nat) {i : Nat} (h : i < 130) : (rootedCells Tryz.zeroCells80 r)[i]? = some ((gst0 r gb).cell i) := by
  simp only [rootedCells, Array.getElem?_setIfInBounds]
  by_cases h1 : 1 = i
  · subst h1; simp [RG.cell, gst0]
  · rw [if_neg h1, zc126_at h, zc126, RG.cell]
    by_cases h0 : i = 0
    · rw [if_pos (by omega), if_pos h0]; rfl
    · rw [if_neg (show ¬ i < 2 by omega), if_neg h0, if_neg (show ¬ i = 1 by omega)]
      rfl
theorem gst0_new (w : World) (r : Int) (Wd : Nat → Nat → Int) : GNew w (w.alloc (.cells (rootedCells Tryz.zeroCells80 r) 80)) (gst0 r w.heap.size) Wd := by
  have := World.rowIs_alloc w (rootedCells Tryz.zeroCells80 r) 80 ((gst0 r w.heap.size).cell) (fun i hi => by rw [rootedCells_size] at hi; exact rootedCells_at r _ hi)
  rw [rootedCells_size] at this
  exact ⟨⟨⟨80, this⟩, fun _ _ _ e => (by cases e)⟩, (Only.refl Nob w).alloc _, Nat.le_refl _, fun _ _ _ e => (by cases e), fun _ _ _ _ _ e => (by cases e)⟩

/-- What a guest's root byte makes. -/
def rootNo (n : Nat) : Prop := ¬ (n = 255 ∨ n < 64)
set_option maxRecDepth 100000 in
set_option maxHeartbeats 400000 in
theorem rootedBad_any (w : World) (n : Nat) (hn : n < 256) (h : ¬ (n = 255 ∨ n < 64)) :
    Calls Tryz.prog 126 #[.int .u8 n] w fun e w' => e = .returned (.pointer none) ∧ w = w' := by
  have h1 : ((n : Int) == 255) = false := by rw [beq_eq_false_iff_ne]; omega
  have h2 : ¬ (n : Int) < 64 := by omega
  go_enter Tryz.func126, Tryz.ntmps126
  go_wp2
  go_ret
  exact ⟨rfl, rfl⟩
set_option maxRecDepth 100000 in
set_option maxHeartbeats 400000 in
theorem rootedGood_any (w : World) (n : Nat) (hn : n < 256) (h : n = 255 ∨ n < 64) :
    Calls Tryz.prog 126 #[.int .u8 n] w fun e w' => e = .returned (pt w.heap.size) ∧ w' = w.alloc (.cells (rootedCells Tryz.zeroCells80 (if n = 255 then -1 else (n : Int))) 80) := by
  by_cases e : n = 255
  · subst e
    go_enter Tryz.func126, Tryz.ntmps126
    go_wp2
    go_ret
    exact ⟨rfl, rfl⟩
  · have h1 : ((n : Int) == 255) = false := by rw [beq_eq_false_iff_ne]; omega
    have h2 : (n : Int) < 64 := by omega
    rw [if_neg e]
    go_enter Tryz.func126, Tryz.ntmps126
    go_wp2
    go_ret
    exact ⟨rfl, rfl⟩

theorem page_row0 (w : World) : (w.alloc (.cells #[.int .i64 0, .int .i64 0, .int .i64 0, .int .i64 0, .int .i64 0, .int .i64 0, .int .i64 0, .int .i64 0, .int .i64 0] 83)).rowIs w.heap.size 83 9 (pgC 0 (fun _ => 0)) := World.rowIs_alloc w #[.int .i64 0, .int .i64 0, .int .i64 0, .int .i64 0, .int .i64 0, .int .i64 0, .int .i64 0, .int .i64 0, .int .i64 0] 83 (pgC 0 (fun _ => 0)) (fun i hi => by
  have hi : i < 9 := hi
  have e : i = 0 ∨ i = 1 ∨ i = 2 ∨ i = 3 ∨ i = 4 ∨ i = 5 ∨ i = 6 ∨ i = 7 ∨ i = 8 := by omega
  rcases e with e | e | e | e | e | e | e | e | e <;> subst e <;> rfl)

def wUpto (hi : Bool) (l : List Nat) (k j : Nat) : Int := if j < k then wordAt hi l 0 j else 0

set_option maxRecDepth 100000 in
set_option maxHeartbeats 1000000 in
theorem page_any (w : World) (s : ByteArray) (hi : Bool) (hs : s.size = 16) :
    Calls Tryz.prog 125 #[.string s, .bool hi] w fun e w' => e = .returned (pt w.heap.size) ∧ (∃ t, w'.rowIs w.heap.size t 9 (pgC 0 (wordAt hi (nats s) 0))) ∧ Only Nob w w' := by
  have H0 : Hid ((w.alloc (.cells #[.int .i64 0, .int .i64 0, .int .i64 0, .int .i64 0, .int .i64 0, .int .i64 0, .int .i64 0, .int .i64 0, .int .i64 0] 83)).rowIs w.heap.size 83 9 (pgC 0 (wUpto hi (nats s) 0))) := by
    have : wUpto hi (nats s) 0 = fun _ => 0 := by funext j; simp [wUpto]
    rw [this]
    exact page_row0 w
  go_enter Tryz.func125, Tryz.ntmps125
  go_wp2_with fail
  go_loopw [6] (fun s6 wr => ∃ k : Nat, k ≤ 8 ∧ s6 = .int .i64 k ∧ wr.rowIs w.heap.size 83 9 (pgC 0 (wUpto hi (nats s) k)) ∧ Only Nob w wr) (fun s6 _ => 8 - (intOf s6).toNat)
  case atStart => exact ⟨0, by omega, rfl, H0.out, (Only.refl _ _).alloc _⟩
  case round =>
    clear H0
    rename World => wr
    obtain ⟨k, hk, rfl, hr, ho⟩ := hrel
    by_cases hlt : k < 8
    · have hk2 : (k : Int) < 8 := by omega
      have hnl := nats_len s
      have hb1 : 2 * k < s.size := by omega
      have hb2 : 2 * k + 1 < s.size := by omega
      have HB1 := hid (nats_bt hb1)
      have HB2 := hid (nats_bt hb2)
      have b1 := bytes_bt (nats_bys s) (2 * k)
      have b2 := bytes_bt (nats_bys s) (2 * k + 1)
      have c1 : (s[2 * k].toNat : Int) < 256 := by rw [HB1.out]; omega
      have c2 : (s[2 * k + 1].toNat : Int) < 256 := by rw [HB2.out]; omega
      have d1 : (0 : Int) ≤ (s[2 * k].toNat : Int) := by omega
      have d2 : (0 : Int) ≤ (s[2 * k + 1].toNat : Int) := by omega
      have hcell := hr.cell (i := 1 + k) (by omega)
      have hfz := hr.frozen (1 + k)
      have hgl := hr.lt
      have HN : Hid (∀ v, v = wordAt hi (nats s) 0 k → (wr.setCell ⟨w.heap.size, 1 + k, none⟩ (.int .i64 v)).rowIs w.heap.size 83 9 (pgC 0 (wUpto hi (nats s) (k + 1))) ∧ Only Nob w (wr.setCell ⟨w.heap.size, 1 + k, none⟩ (.int .i64 v))) := fun v hv => by
        refine ⟨(hr.set (1 + k) (.int .i64 v)).congr (fun j hj => ?_), ho.after ((Only.refl (One w.heap.size) wr).setCell (p := ⟨w.heap.size, 1 + k, none⟩) (fun _ => rfl) _) (fun x hx e => by have e : x = w.heap.size := e; omega)⟩
        by_cases e : j = 1 + k
        · subst e
          simp only [if_true, pgC]
          rw [if_neg (by omega), show 1 + k - 1 = k by omega, wUpto, if_pos (by omega), hv]
        · simp only [if_neg e, pgC]
          by_cases e0 : j = 0
          · rw [if_pos e0, if_pos e0]
          · rw [if_neg e0, if_neg e0, wUpto, wUpto]
            have : (j - 1 < k) = (j - 1 < k + 1) := by apply propext; omega
            simp only [this]
      clear hr ho
      cases hi with
      | true =>
        have HV : Hid (256 * (s[2 * k].toNat : Int) + (s[2 * k + 1].toNat : Int) = wordAt true (nats s) 0 k) := by
          rw [Hid, HB1.out, HB2.out, wordAt, Nat.zero_add]
          simp
        go_wp2_with fail
        go_roundw
        case rel => exact ⟨k + 1, by omega, by go_num, (HN.out _ HV.out).1, (HN.out _ HV.out).2⟩
        case measure => simp [intOf]; omega
      | false =>
        have HV : Hid ((s[2 * k].toNat : Int) + 256 * (s[2 * k + 1].toNat : Int) = wordAt false (nats s) 0 k) := by
          rw [Hid, HB1.out, HB2.out, wordAt, Nat.zero_add]
          simp
        go_wp2_with fail
        go_roundw
        case rel => exact ⟨k + 1, by omega, by go_num, (HN.out _ HV.out).1, (HN.out _ HV.out).2⟩
        case measure => simp [intOf]; omega
    · have hk8 : k = 8 := by omega
      subst hk8
      have HR : Hid (∃ t, wr.rowIs w.heap.size t 9 (pgC 0 (wordAt hi (nats s) 0))) := ⟨83, hr.congr (fun j hj => by
        simp only [pgC]
        by_cases e0 : j = 0
        · rw [if_pos e0, if_pos e0]
        · rw [if_neg e0, if_neg e0, wUpto, if_pos (by omega)])⟩
      have HO := hid ho
      clear hr ho
      go_wp2
      go_ret
      exact ⟨rfl, HR.out, HO.out⟩
end Go.Proofs.YtfcepnhknmbaaaaGreat
