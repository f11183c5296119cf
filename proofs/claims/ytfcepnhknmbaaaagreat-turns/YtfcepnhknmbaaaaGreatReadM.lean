/- A reader of bytes as it lies in memory ('Rd'), and the contracts of its require, take, rootPage, flag, highFirst, lowFirst, words, bits. -/
import Derived.Test.YtfcepnhknmbaaaaGreatSealM
import Derived.Test.YtfcepnhknmbaaaaGreatBytesM
import Derived.Laws.EntriesVeiled
namespace Go.Proofs.YtfcepnhknmbaaaaGreat
open Go.RowKit Go.Deep

def rdCell (s : ByteArray) (k : Nat) (x : Bool) (F : Nat → Value) (i : Nat) : Value := if i = 0 then .string (s.extract k s.size) else if i = 1 then .bool x else F i
/-- A reader of the text s that stands at byte k. -/
structure Rd (w : World) (rb : Nat) (s : ByteArray) (k : Nat) (x : Bool) (F : Nat → Value) : Prop where
  row : ∃ t, w.rowIs rb t 7 (rdCell s k x F)
  le : k ≤ s.size
namespace Rd
variable {w w' : World} {rb : Nat} {s : ByteArray} {k : Nat} {x : Bool} {F : Nat → Value}
theorem c0 (h : Rd w rb s k x F) : w.cell? ⟨rb, 0, none⟩ = some (.string (s.extract k s.size)) := by obtain ⟨t, r⟩ := h.row; exact r.cell (by omega)
theorem c1 (h : Rd w rb s k x F) : w.cell? ⟨rb, 1, none⟩ = some (.bool x) := by obtain ⟨t, r⟩ := h.row; exact r.cell (by omega)
theorem cF (h : Rd w rb s k x F) {i : Nat} (h2 : 2 ≤ i) (h7 : i < 7) : w.cell? ⟨rb, i, none⟩ = some (F i) := by
  obtain ⟨t, r⟩ := h.row
  rw [r.cell h7, rdCell, if_neg (by omega), if_neg (by omega)]
theorem fz (h : Rd w rb s k x F) (i : Nat) : w.frozen? ⟨rb, i, none⟩ = false := by obtain ⟨t, r⟩ := h.row; exact r.frozen i
theorem lt (h : Rd w rb s k x F) : rb < w.heap.size := by obtain ⟨t, r⟩ := h.row; exact r.lt
theorem only {T : Nat → Prop} (h : Rd w rb s k x F) (o : Only T w w') (ht : ¬ T rb) : Rd w' rb s k x F := by
  obtain ⟨t, r⟩ := h.row
  exact ⟨⟨t, o.row r ht⟩, h.le⟩
theorem nob (h : Rd w rb s k x F) (o : Only Nob w w') : Rd w' rb s k x F := h.only o (fun q => q)
theorem setX (h : Rd w rb s k x F) (y : Bool) : Rd (w.setCell ⟨rb, 1, none⟩ (.bool y)) rb s k y F := by
  obtain ⟨t, r⟩ := h.row
  refine ⟨⟨t, (r.set 1 (.bool y)).congr (fun j _ => ?_)⟩, h.le⟩
  simp only [rdCell]
  by_cases e : j = 1
  · subst e; simp
  · simp [e]
theorem setK (h : Rd w rb s k x F) {k' : Nat} (hk : k' ≤ s.size) : Rd (w.setCell ⟨rb, 0, none⟩ (.string (s.extract k' s.size))) rb s k' x F := by
  obtain ⟨t, r⟩ := h.row
  refine ⟨⟨t, (r.set 0 (.string (s.extract k' s.size))).congr (fun j _ => ?_)⟩, hk⟩
  simp only [rdCell]
  by_cases e : j = 0
  · subst e; simp
  · simp [e]
end Rd

/-- m bytes were read, from k on: it is right just if they are there, and it was right before. -/
structure Got (n k : Nat) (x : Bool) (k' : Nat) (x' : Bool) (m : Nat) : Prop where
  iff : x' = false ↔ (x = false ∧ k + m ≤ n)
  pos : x' = false → k' = k + m
theorem Got.trans {n k k1 k2 m1 m2 : Nat} {x x1 x2 : Bool} (h : Got n k x k1 x1 m1) (g : Got n k1 x1 k2 x2 m2) : Got n k x k2 x2 (m1 + m2) := by
  constructor
  · rw [g.iff]
    constructor
    · rintro ⟨a, b⟩
      have := h.pos a
      have := (h.iff.1 a)
      exact ⟨this.1, by omega⟩
    · rintro ⟨a, b⟩
      have q := h.iff.2 ⟨a, by omega⟩
      have := h.pos q
      exact ⟨q, by omega⟩
  · intro q
    obtain ⟨a, b⟩ := g.iff.1 q
    rw [g.pos q, h.pos a]
    omega
theorem Got.refl (n k : Nat) (x : Bool) (h : k ≤ n) : Got n k x k x 0 := ⟨⟨fun q => ⟨q, by omega⟩, fun q => q.1⟩, fun _ => rfl⟩
theorem Got.left {n k k' m : Nat} {x x' : Bool} (h : Got n k x k' x' m) (q : x' = false) : x = false := (h.iff.1 q).1

set_option maxRecDepth 100000 in
set_option maxHeartbeats 400000 in
theorem require_any {w : World} {rb : Nat} {s : ByteArray} {k : Nat} {x : Bool} {F : Nat → Value} (h : Rd w rb s k x F) (b : Bool) :
    Calls Tryz.prog 123 #[pt rb, .bool b] w fun e w' => e = .returned (.tuple #[]) ∧ Rd w' rb s k (x || !b) F ∧ Only (One rb) w w' := by
  have hf := h.fz 1
  have hc := h.c1
  cases b with
  | true =>
    go_enter Tryz.func123, Tryz.ntmps123
    go_wp2
    go_end0
    exact ⟨rfl, by simpa using h, Only.refl _ _⟩
  | false =>
    go_enter Tryz.func123, Tryz.ntmps123
    go_wp2
    go_end0
    exact ⟨rfl, by simpa using h.setX true, (Only.refl _ _).setOne _ _⟩

theorem ext_size (s : ByteArray) (k : Nat) : (s.extract k s.size).size = s.size - k := by
  have := nats_len (s.extract k s.size)
  rw [nats_extract] at this
  rw [← this]
  simp [nats_len]
theorem ext_next (s : ByteArray) (k : Nat) : (s.extract k s.size).extract 1 (s.extract k s.size).size = s.extract (k + 1) s.size := by
  apply nats_inj
  rw [ext_size, nats_extract, nats_extract, nats_extract]
  apply List.ext_getElem?
  intro i
  simp only [List.getElem?_take, List.getElem?_drop]
  by_cases e : i < s.size - (k + 1)
  · rw [if_pos e, if_pos (by omega), if_pos (by omega)]
    congr 1
    omega
  · rw [if_neg e, if_neg (by omega)]

set_option maxRecDepth 100000 in
set_option maxHeartbeats 400000 in
theorem rtake_any {w : World} {rb : Nat} {s : ByteArray} {k : Nat} {x : Bool} {F : Nat → Value} (h : Rd w rb s k x F) (_hs : s.size ≤ maxLen) :
    Calls Tryz.prog 106 #[pt rb] w fun e w' => ∃ k' x' b, e = .returned (.int .u8 b) ∧ Rd w' rb s k' x' F ∧ Only (One rb) w w' ∧ Got s.size k x k' x' 1 ∧ 0 ≤ b ∧ b ≤ 255 ∧ (x' = false → b = (bt (nats s) k : Nat)) := by
  have hc0 := h.c0
  have hf := h.fz 0
  have hle := h.le
  have hem : (s.extract k s.size).toList.isEmpty = decide (¬ k < s.size) := by
    have hsz := ext_size s k
    have hl : (s.extract k s.size).toList.length = s.size - k := by
      rw [ByteArray.toList_eq, Array.length_toList]; exact hsz
    rw [Bool.eq_iff_iff, List.isEmpty_iff_length_eq_zero, hl, decide_eq_true_iff]
    omega
  by_cases hk : k < s.size
  · have hsz := ext_size s k
    have HN := hid (ext_next s k)
    have HB : Hid (∀ h0 : 0 < (s.extract k s.size).size, ((s.extract k s.size)[0].toNat : Int) = (bt (nats s) k : Nat)) := fun h0 => by
      rw [nats_bt h0, nats_extract]
      congr 1
      rw [bt_take (by omega), bt_drop]
      rfl
    have HR : Hid (∀ w' : World, Rd w' rb s k (x || !true) F → Rd (w'.setCell ⟨rb, 0, none⟩ (.string ((s.extract k s.size).extract 1 (s.extract k s.size).size))) rb s (k + 1) x F) := fun w' h' => by
      rw [ext_next]
      simpa using h'.setK (k' := k + 1) (by omega)
    have HC : Hid (∀ w' : World, Rd w' rb s k (x || !true) F → w'.cell? ⟨rb, 0, none⟩ = some (.string (s.extract k s.size)) ∧ w'.frozen? ⟨rb, 0, none⟩ = false) := fun w' h' => ⟨h'.c0, h'.fz 0⟩
    have H := hid h
    clear h
    rw [decide_eq_false (by omega)] at hem
    generalize s.extract k s.size = r at *
    have hr0 : 0 < r.size := by omega
    have hb0 := UInt8.toNat_lt (r[0]'hr0)
    go_enter Tryz.func106, Tryz.ntmps106
    go_wp2_with fail
    refine (require_any H.out true).mono ?_
    rintro e w1 ⟨rfl, h1, ho1⟩
    obtain ⟨d0, d1⟩ := HC.out w1 h1
    clear hc0 hf
    go_wp2
    go_ret
    refine ⟨k + 1, x, _, rfl, by rw [← hsz]; exact HR.out w1 h1, ho1.setOne _ _, ⟨⟨fun q => ⟨q, by omega⟩, fun q => q.1⟩, fun _ => rfl⟩, by omega, by omega, fun _ => HB.out hr0⟩
  · have hk2 : k = s.size := by omega
    have HC : Hid (∀ w' : World, Rd w' rb s k (x || !false) F → w'.cell? ⟨rb, 0, none⟩ = some (.string (s.extract k s.size))) := fun w' h' => h'.c0
    have H := hid h
    clear h
    rw [decide_eq_true (by omega)] at hem
    generalize s.extract k s.size = r at *
    go_enter Tryz.func106, Tryz.ntmps106
    go_wp2_with fail
    refine (require_any H.out false).mono ?_
    rintro e w1 ⟨rfl, h1, ho1⟩
    have d0 := HC.out w1 h1
    clear hc0 hf
    go_wp2
    go_ret
    refine ⟨k, true, 0, rfl, by simpa using h1, ho1, ⟨⟨fun q => (by cases q), fun q => by omega⟩, fun q => (by cases q)⟩, by omega, by omega, fun q => (by cases q)⟩

theorem low_or {a b : Int} (ha0 : 0 ≤ a) (ha : a ≤ 255) (hb0 : 0 ≤ b) (hb : b ≤ 255) : bits BinOp.or IntKind.u16 a (b * 256) = a + 256 * b := by
  obtain ⟨A, rfl⟩ := Int.eq_ofNat_of_zero_le ha0
  obtain ⟨B, rfl⟩ := Int.eq_ofNat_of_zero_le hb0
  have e : ((B : Int) * 256) = ((B * 256 : Nat) : Int) := by omega
  rw [e, u16_or_nat _ _ (by omega) (by omega), Nat.or_comm]
  have := Nat.two_pow_add_eq_or_of_lt (i := 8) (b := A) (by omega) B
  rw [show B * 256 = 2 ^ 8 * B by omega, ← this]
  omega
theorem high_or {a b : Int} (ha0 : 0 ≤ a) (ha : a ≤ 255) (hb0 : 0 ≤ b) (hb : b ≤ 255) : bits BinOp.or IntKind.u16 (b * 256) a = 256 * b + a := by
  obtain ⟨A, rfl⟩ := Int.eq_ofNat_of_zero_le ha0
  obtain ⟨B, rfl⟩ := Int.eq_ofNat_of_zero_le hb0
  have e : ((B : Int) * 256) = ((B * 256 : Nat) : Int) := by omega
  rw [e, u16_or_nat _ _ (by omega) (by omega)]
  have := Nat.two_pow_add_eq_or_of_lt (i := 8) (b := A) (by omega) B
  rw [show B * 256 = 2 ^ 8 * B by omega, ← this]
  omega

set_option maxRecDepth 100000 in
set_option maxHeartbeats 400000 in
theorem lowFirst_any {w : World} {rb : Nat} {s : ByteArray} {k : Nat} {x : Bool} {F : Nat → Value} (h : Rd w rb s k x F) (hs : s.size ≤ maxLen) :
    Calls Tryz.prog 121 #[pt rb] w fun e w' => ∃ k' x' v, e = .returned (.int .u16 v) ∧ Rd w' rb s k' x' F ∧ Only (One rb) w w' ∧ Got s.size k x k' x' 2 ∧ 0 ≤ v ∧ v ≤ 65535 ∧ (x' = false → v = wordAt false (nats s) k 0) := by
  go_enter Tryz.func121, Tryz.ntmps121
  go_wp2_with fail
  refine (rtake_any h hs).mono ?_
  rintro e w1 ⟨k1, x1, a, rfl, h1, ho1, g1, a0, a1, ha⟩
  have HA := hid ha
  clear ha
  go_wp2_with fail
  refine (rtake_any h1 hs).mono ?_
  rintro e w2 ⟨k2, x2, b, rfl, h2, ho2, g2, b0, b1, hb⟩
  have HB := hid hb
  clear hb
  have hor := low_or a0 a1 b0 b1
  go_wp2
  go_ret
  refine ⟨k2, x2, a + 256 * b, rfl, h2, ho1.trans ho2, g1.trans g2, by omega, by omega, fun q => ?_⟩
  rw [HA.out (g2.left q), HB.out q, g1.pos (g2.left q)]
  simp [wordAt]

set_option maxRecDepth 100000 in
set_option maxHeartbeats 400000 in
theorem highFirst_any {w : World} {rb : Nat} {s : ByteArray} {k : Nat} {x : Bool} {F : Nat → Value} (h : Rd w rb s k x F) (hs : s.size ≤ maxLen) :
    Calls Tryz.prog 117 #[pt rb] w fun e w' => ∃ k' x' v, e = .returned (.int .u16 v) ∧ Rd w' rb s k' x' F ∧ Only (One rb) w w' ∧ Got s.size k x k' x' 2 ∧ 0 ≤ v ∧ v ≤ 65535 ∧ (x' = false → v = wordAt true (nats s) k 0) := by
  go_enter Tryz.func117, Tryz.ntmps117
  go_wp2_with fail
  refine (rtake_any h hs).mono ?_
  rintro e w1 ⟨k1, x1, a, rfl, h1, ho1, g1, a0, a1, ha⟩
  have HA := hid ha
  clear ha
  go_wp2_with fail
  refine (rtake_any h1 hs).mono ?_
  rintro e w2 ⟨k2, x2, b, rfl, h2, ho2, g2, b0, b1, hb⟩
  have HB := hid hb
  clear hb
  have hor := high_or b0 b1 a0 a1
  go_wp2
  go_ret
  refine ⟨k2, x2, 256 * a + b, rfl, h2, ho1.trans ho2, g1.trans g2, by omega, by omega, fun q => ?_⟩
  rw [HA.out (g2.left q), HB.out q, g1.pos (g2.left q)]
  simp [wordAt]

set_option maxRecDepth 100000 in
set_option maxHeartbeats 400000 in
theorem rootPage_any {w : World} {rb : Nat} {s : ByteArray} {x : Bool} {F : Nat → Value} (h : Rd w rb s 3 x F) (hs : s.size ≤ maxLen) :
    Calls Tryz.prog 118 #[pt rb] w fun e w' => ∃ k' x' v, e = .returned (.int .i64 v) ∧ Rd w' rb s k' x' F ∧ Only (One rb) w w' ∧ -1 ≤ v ∧ v ≤ 255 ∧ (x' = false ↔ (x = false ∧ 4 ≤ s.size ∧ rootOk (nats s))) ∧ (x' = false → k' = 4 ∧ v = rootOf (nats s)) := by
  go_enter Tryz.func118, Tryz.ntmps118
  go_wp2_with fail
  refine (rtake_any h hs).mono ?_
  rintro e w1 ⟨k1, x1, a, rfl, h1, ho1, g1, a0, a1, ha⟩
  have HA := hid ha
  clear ha
  by_cases h255 : a = 255
  · subst h255
    go_wp2
    go_ret
    refine ⟨k1, x1, -1, rfl, h1, ho1, by omega, by omega, ⟨fun q => ?_, fun q => g1.iff.2 ⟨q.1, q.2.1⟩⟩, fun q => ⟨g1.pos q, ?_⟩⟩
    · have := HA.out q
      exact ⟨(g1.iff.1 q).1, (g1.iff.1 q).2, Or.inl (by omega)⟩
    · have := HA.out q
      rw [rootOf, if_pos (by omega)]
  · have h255' : (a == 255) = false := by simpa using h255
    have HL : Hid (decide (a < 64) = decide (a < 64)) := rfl
    go_wp2_with fail
    refine (require_any h1 _).mono ?_
    rintro e w2 ⟨rfl, h2, ho2⟩
    go_wp2
    go_ret
    refine ⟨k1, _, a, rfl, h2, ho1.trans ho2, by omega, by omega, ?_, fun q => ?_⟩
    · rw [Bool.or_eq_false_iff]
      constructor
      · rintro ⟨q1, q2⟩
        have := HA.out q1
        simp at q2
        exact ⟨(g1.iff.1 q1).1, (g1.iff.1 q1).2, Or.inr (by omega)⟩
      · rintro ⟨q1, q2, q3⟩
        have q := g1.iff.2 ⟨q1, q2⟩
        have := HA.out q
        refine ⟨q, ?_⟩
        rcases q3 with q3 | q3
        · omega
        · simp; omega
    · rw [Bool.or_eq_false_iff] at q
      have := HA.out q.1
      refine ⟨g1.pos q.1, ?_⟩
      rw [rootOf, if_neg (by omega)]
      omega
end Go.Proofs.YtfcepnhknmbaaaaGreat

/- The contracts of a reader's flag, words, bits. -/
namespace Go.Proofs.YtfcepnhknmbaaaaGreat
open Go.RowKit Go.Deep

set_option maxRecDepth 100000 in
set_option maxHeartbeats 400000 in
theorem noRoot_any (w : World) (rb : Nat) : Calls Tryz.prog 113 #[pt rb] w fun e w' => e = .returned (.int .i64 (-1)) ∧ w = w' := by
  go_enter Tryz.func113, Tryz.ntmps113
  go_wp2
  go_ret
  exact ⟨rfl, rfl⟩
set_option maxRecDepth 100000 in
set_option maxHeartbeats 400000 in
theorem always_any (w : World) (rb : Nat) : Calls Tryz.prog 116 #[pt rb] w fun e w' => e = .returned (.bool true) ∧ w = w' := by
  go_enter Tryz.func116, Tryz.ntmps116
  go_wp2
  go_ret
  exact ⟨rfl, rfl⟩

set_option maxRecDepth 100000 in
set_option maxHeartbeats 400000 in
theorem flag_any {w : World} {rb : Nat} {s : ByteArray} {k : Nat} {x : Bool} {F : Nat → Value} (h : Rd w rb s k x F) (hs : s.size ≤ maxLen) :
    Calls Tryz.prog 120 #[pt rb] w fun e w' => ∃ k' x' v, e = .returned (.bool v) ∧ Rd w' rb s k' x' F ∧ Only (One rb) w w' ∧ (x' = false ↔ (x = false ∧ k + 1 ≤ s.size ∧ bt (nats s) k ≤ 1)) ∧ (x' = false → k' = k + 1 ∧ v = (bt (nats s) k == 1)) := by
  go_enter Tryz.func120, Tryz.ntmps120
  go_wp2_with fail
  refine (rtake_any h hs).mono ?_
  rintro e w1 ⟨k1, x1, a, rfl, h1, ho1, g1, a0, a1, ha⟩
  have HA := hid ha
  clear ha
  go_wp2_with fail
  refine (require_any h1 _).mono ?_
  rintro e w2 ⟨rfl, h2, ho2⟩
  go_wp2
  go_ret
  refine ⟨k1, _, _, rfl, h2, ho1.trans ho2, ?_, fun q => ?_⟩
  · rw [Bool.or_eq_false_iff]
    constructor
    · rintro ⟨q1, q2⟩
      have := HA.out q1
      simp at q2
      exact ⟨(g1.iff.1 q1).1, (g1.iff.1 q1).2, by omega⟩
    · rintro ⟨q1, q2, q3⟩
      have q := g1.iff.2 ⟨q1, q2⟩
      have := HA.out q
      exact ⟨q, by simp; omega⟩
  · rw [Bool.or_eq_false_iff] at q
    have := HA.out q.1
    refine ⟨g1.pos q.1, ?_⟩
    rw [this, Bool.eq_iff_iff]
    simp
    omega

/-- Eight words, the first i of them read. -/
def wsCell (ws : Nat → Int) (i j : Nat) : Value := .int .u16 (if j < i then ws j else 0)
def RdTwo (a b k : Nat) : Prop := k = a ∨ k = b

set_option maxRecDepth 100000 in
set_option maxHeartbeats 1000000 in
theorem wordsLow_any {w : World} {rb : Nat} {s : ByteArray} {k : Nat} {x : Bool} {F : Nat → Value} (h : Rd w rb s k x F) (hs : s.size ≤ maxLen) (hF : F 5 = .func (.func 121) #[pt rb] #[]) :
    Calls Tryz.prog 128 #[pt rb] w fun e w' => ∃ (k' : Nat) (x' : Bool) (ws : Nat → Int), e = .returned (.agg #[.int .u16 (ws 0), .int .u16 (ws 1), .int .u16 (ws 2), .int .u16 (ws 3), .int .u16 (ws 4), .int .u16 (ws 5), .int .u16 (ws 6), .int .u16 (ws 7)]) ∧ Rd w' rb s k' x' F ∧ Only (One rb) w w' ∧ Got s.size k x k' x' 16 ∧ (∀ j : Nat, 0 ≤ ws j ∧ ws j ≤ 65535) ∧ (x' = false → ∀ j, j < 8 → ws j = wordAt false (nats s) k j) := by
  have hlt := h.lt
  have HF := hid hF
  clear hF
  have hA := h.nob (((Only.refl Nob w).alloc (.cells #[.int .u16 0, .int .u16 0, .int .u16 0, .int .u16 0, .int .u16 0, .int .u16 0, .int .u16 0, .int .u16 0] 86)).alloc (.cells #[.int .u16 0, .int .u16 0, .int .u16 0, .int .u16 0, .int .u16 0, .int .u16 0, .int .u16 0, .int .u16 0] 86))
  have HLE := hid h.le
  clear h
  go_enter Tryz.func128, Tryz.ntmps128
  go_wp2
  go_loopw [5] (fun c wr => ∃ (i k' : Nat) (x' : Bool) (ws : Nat → Int), i ≤ 8 ∧ c = .int .i64 i ∧ Rd wr rb s k' x' F ∧ (∃ t, wr.rowIs (w.heap.size + 1) t 8 (wsCell ws i)) ∧ Got s.size k x k' x' (2 * i) ∧ (∀ j : Nat, 0 ≤ ws j ∧ ws j ≤ 65535) ∧ (x' = false → ∀ j, j < i → ws j = wordAt false (nats s) k j) ∧ Only (RdTwo rb (w.heap.size + 1)) ((w.alloc (.cells #[.int .u16 0, .int .u16 0, .int .u16 0, .int .u16 0, .int .u16 0, .int .u16 0, .int .u16 0, .int .u16 0] 86)).alloc (.cells #[.int .u16 0, .int .u16 0, .int .u16 0, .int .u16 0, .int .u16 0, .int .u16 0, .int .u16 0, .int .u16 0] 86)) wr) (fun c _ => 8 - (intOf c).toNat)
  case atStart =>
    have r := World.rowIs_alloc (w.alloc (.cells #[.int .u16 0, .int .u16 0, .int .u16 0, .int .u16 0, .int .u16 0, .int .u16 0, .int .u16 0, .int .u16 0] 86)) #[.int .u16 0, .int .u16 0, .int .u16 0, .int .u16 0, .int .u16 0, .int .u16 0, .int .u16 0, .int .u16 0] 86 (wsCell (fun _ => 0) 0) (fun i hi => by
      have hi : i < 8 := hi
      have e : i = 0 ∨ i = 1 ∨ i = 2 ∨ i = 3 ∨ i = 4 ∨ i = 5 ∨ i = 6 ∨ i = 7 := by omega
      rcases e with e | e | e | e | e | e | e | e <;> subst e <;> rfl)
    rw [World.size_alloc] at r
    exact ⟨0, k, x, fun _ => 0, by omega, rfl, hA, ⟨86, r⟩, Got.refl _ _ _ HLE.out, fun _ => ⟨by simp, by simp⟩, fun _ j hj => by omega, Only.refl _ _⟩
  case round =>
    clear hA
    obtain ⟨i, k', x', ws, hi, rfl, hR, ⟨t, hr⟩, hG, hB, hW, hO⟩ := hrel
    have hsz := hO.size
    simp only [World.size_alloc] at hsz
    have HG := hid hG
    have HB := hid hB
    have HW := hid hW
    have HO := hid hO
    clear hG hB hW hO
    by_cases hlt2 : i < 8
    · have hc5 := hR.cF (i := 5) (by omega) (by omega)
      rw [HF.out] at hc5
      go_wp2_with fail
      refine (lowFirst_any hR hs).mono ?_
      rintro e w1 ⟨k1, x1, v, rfl, h1, ho1, g1, v0, v1, hv⟩
      have HV := hid hv
      clear hv
      have hr1 := ho1.row hr (fun q => by simp only [One] at q; omega)
      have hcl := hr1.cell hlt2
      have hfz := hr1.frozen i
      clear hc5 hR hr
      go_wp2
      go_roundw
      case rel =>
        refine ⟨i + 1, k1, x1, fun j => if j = i then v else ws j, by omega, by go_num, h1.only ((Only.refl (One (w.heap.size + 1)) w1).setOne i _) (fun q => by simp only [One] at q; omega), ⟨t, (hr1.set i _).congr (fun j _ => ?_)⟩, HG.out.trans g1, fun j => ?_, fun q j hj => ?_, ?_⟩
        · simp only [wsCell]
          by_cases e : j = i
          · subst e; simp
          · by_cases e2 : j < i
            · simp [e, e2, show j < i + 1 by omega]
            · simp [e, e2, show ¬ j < i + 1 by omega]
        · dsimp only
          split
          · exact ⟨v0, v1⟩
          · exact HB.out j
        · dsimp only
          by_cases e : j = i
          · subst e
            rw [if_pos rfl, HV.out q, HG.out.pos (g1.left q)]
            simp [wordAt]
          · rw [if_neg e]
            exact HW.out (g1.left q) j (by omega)
        · exact (HO.out.trans (ho1.mono (fun b _ q => Or.inl q))).setCell (p := ⟨w.heap.size + 1, i, none⟩) (fun _ => Or.inr rfl) _
      case measure => simp [intOf]; omega
    · have e8 : i = 8 := by omega
      subst e8
      have q0 : wr.cell? ⟨w.heap.size + 1, 0, none⟩ = some (.int .u16 (ws 0)) := hr.cell (by omega)
      have q1 : wr.cell? ⟨w.heap.size + 1, 1, none⟩ = some (.int .u16 (ws 1)) := hr.cell (by omega)
      have q2 : wr.cell? ⟨w.heap.size + 1, 2, none⟩ = some (.int .u16 (ws 2)) := hr.cell (by omega)
      have q3 : wr.cell? ⟨w.heap.size + 1, 3, none⟩ = some (.int .u16 (ws 3)) := hr.cell (by omega)
      have q4 : wr.cell? ⟨w.heap.size + 1, 4, none⟩ = some (.int .u16 (ws 4)) := hr.cell (by omega)
      have q5 : wr.cell? ⟨w.heap.size + 1, 5, none⟩ = some (.int .u16 (ws 5)) := hr.cell (by omega)
      have q6 : wr.cell? ⟨w.heap.size + 1, 6, none⟩ = some (.int .u16 (ws 6)) := hr.cell (by omega)
      have q7 : wr.cell? ⟨w.heap.size + 1, 7, none⟩ = some (.int .u16 (ws 7)) := hr.cell (by omega)
      have r2 : wr.rowIs w.heap.size 86 8 (fun _ => .int .u16 0) := by
        have r := World.rowIs_alloc w #[.int .u16 0, .int .u16 0, .int .u16 0, .int .u16 0, .int .u16 0, .int .u16 0, .int .u16 0, .int .u16 0] 86 (fun _ => .int .u16 0) (fun i hi => by
          have hi : i < 8 := hi
          have e : i = 0 ∨ i = 1 ∨ i = 2 ∨ i = 3 ∨ i = 4 ∨ i = 5 ∨ i = 6 ∨ i = 7 := by omega
          rcases e with e | e | e | e | e | e | e | e <;> subst e <;> rfl)
        exact HO.out.row (((Only.refl Nob _).alloc _).row r (fun q => q)) (fun q => by simp only [RdTwo] at q; omega)
      have z0 := r2.cell (show 0 < 8 by omega)
      have z1 := r2.cell (show 1 < 8 by omega)
      have z2 := r2.cell (show 2 < 8 by omega)
      have z3 := r2.cell (show 3 < 8 by omega)
      have z4 := r2.cell (show 4 < 8 by omega)
      have z5 := r2.cell (show 5 < 8 by omega)
      have z6 := r2.cell (show 6 < 8 by omega)
      have z7 := r2.cell (show 7 < 8 by omega)
      have f0 := r2.frozen 0
      have f1 := r2.frozen 1
      have f2 := r2.frozen 2
      have f3 := r2.frozen 3
      have f4 := r2.frozen 4
      have f5 := r2.frozen 5
      have f6 := r2.frozen 6
      have f7 := r2.frozen 7
      have HR := hid hR
      have R2 := hid r2
      clear hr r2 hR
      go_wp2
      have o1 : Only (One w.heap.size) wr ((((((((wr.setCell ⟨w.heap.size, 0, none⟩ (.int .u16 (ws 0))).setCell ⟨w.heap.size, 1, none⟩ (.int .u16 (ws 1))).setCell ⟨w.heap.size, 2, none⟩ (.int .u16 (ws 2))).setCell ⟨w.heap.size, 3, none⟩ (.int .u16 (ws 3))).setCell ⟨w.heap.size, 4, none⟩ (.int .u16 (ws 4))).setCell ⟨w.heap.size, 5, none⟩ (.int .u16 (ws 5))).setCell ⟨w.heap.size, 6, none⟩ (.int .u16 (ws 6))).setCell ⟨w.heap.size, 7, none⟩ (.int .u16 (ws 7))) := (((((((((Only.refl _ _).setOne _ _).setOne _ _).setOne _ _).setOne _ _).setOne _ _).setOne _ _).setOne _ _).setOne _ _)
      refine bodyPost_ret (v := .agg #[.int .u16 (ws 0), .int .u16 (ws 1), .int .u16 (ws 2), .int .u16 (ws 3), .int .u16 (ws 4), .int .u16 (ws 5), .int .u16 (ws 6), .int .u16 (ws 7)]) (by simp [results, Tryz.results128, go_sem, z0, z1, z2, z3, z4, z5, z6, z7]) rfl ⟨k', x', ws, rfl, HR.out.only o1 (fun q => by simp only [One] at q; omega), ?_, HG.out, HB.out, HW.out⟩
      have o2 : Only (One rb) w wr := (((Only.refl (One rb) w).alloc _).alloc _).after HO.out (fun b hb q => by simp only [RdTwo] at q; simp only [One]; omega)
      exact o2.after o1 (fun b hb q => by simp only [One] at q; omega)
set_option maxRecDepth 100000 in
set_option maxHeartbeats 1000000 in
theorem wordsHigh_any {w : World} {rb : Nat} {s : ByteArray} {k : Nat} {x : Bool} {F : Nat → Value} (h : Rd w rb s k x F) (hs : s.size ≤ maxLen) (hF : F 5 = .func (.func 117) #[pt rb] #[]) :
    Calls Tryz.prog 128 #[pt rb] w fun e w' => ∃ (k' : Nat) (x' : Bool) (ws : Nat → Int), e = .returned (.agg #[.int .u16 (ws 0), .int .u16 (ws 1), .int .u16 (ws 2), .int .u16 (ws 3), .int .u16 (ws 4), .int .u16 (ws 5), .int .u16 (ws 6), .int .u16 (ws 7)]) ∧ Rd w' rb s k' x' F ∧ Only (One rb) w w' ∧ Got s.size k x k' x' 16 ∧ (∀ j : Nat, 0 ≤ ws j ∧ ws j ≤ 65535) ∧ (x' = false → ∀ j, j < 8 → ws j = wordAt true (nats s) k j) := by
  have hlt := h.lt
  have HF := hid hF
  clear hF
  have hA := h.nob (((Only.refl Nob w).alloc (.cells #[.int .u16 0, .int .u16 0, .int .u16 0, .int .u16 0, .int .u16 0, .int .u16 0, .int .u16 0, .int .u16 0] 86)).alloc (.cells #[.int .u16 0, .int .u16 0, .int .u16 0, .int .u16 0, .int .u16 0, .int .u16 0, .int .u16 0, .int .u16 0] 86))
  have HLE := hid h.le
  clear h
  go_enter Tryz.func128, Tryz.ntmps128
  go_wp2
  go_loopw [5] (fun c wr => ∃ (i k' : Nat) (x' : Bool) (ws : Nat → Int), i ≤ 8 ∧ c = .int .i64 i ∧ Rd wr rb s k' x' F ∧ (∃ t, wr.rowIs (w.heap.size + 1) t 8 (wsCell ws i)) ∧ Got s.size k x k' x' (2 * i) ∧ (∀ j : Nat, 0 ≤ ws j ∧ ws j ≤ 65535) ∧ (x' = false → ∀ j, j < i → ws j = wordAt true (nats s) k j) ∧ Only (RdTwo rb (w.heap.size + 1)) ((w.alloc (.cells #[.int .u16 0, .int .u16 0, .int .u16 0, .int .u16 0, .int .u16 0, .int .u16 0, .int .u16 0, .int .u16 0] 86)).alloc (.cells #[.int .u16 0, .int .u16 0, .int .u16 0, .int .u16 0, .int .u16 0, .int .u16 0, .int .u16 0, .int .u16 0] 86)) wr) (fun c _ => 8 - (intOf c).toNat)
  case atStart =>
    have r := World.rowIs_alloc (w.alloc (.cells #[.int .u16 0, .int .u16 0, .int .u16 0, .int .u16 0, .int .u16 0, .int .u16 0, .int .u16 0, .int .u16 0] 86)) #[.int .u16 0, .int .u16 0, .int .u16 0, .int .u16 0, .int .u16 0, .int .u16 0, .int .u16 0, .int .u16 0] 86 (wsCell (fun _ => 0) 0) (fun i hi => by
      have hi : i < 8 := hi
      have e : i = 0 ∨ i = 1 ∨ i = 2 ∨ i = 3 ∨ i = 4 ∨ i = 5 ∨ i = 6 ∨ i = 7 := by omega
      rcases e with e | e | e | e | e | e | e | e <;> subst e <;> rfl)
    rw [World.size_alloc] at r
    exact ⟨0, k, x, fun _ => 0, by omega, rfl, hA, ⟨86, r⟩, Got.refl _ _ _ HLE.out, fun _ => ⟨by simp, by simp⟩, fun _ j hj => by omega, Only.refl _ _⟩
  case round =>
    clear hA
    obtain ⟨i, k', x', ws, hi, rfl, hR, ⟨t, hr⟩, hG, hB, hW, hO⟩ := hrel
    have hsz := hO.size
    simp only [World.size_alloc] at hsz
    have HG := hid hG
    have HB := hid hB
    have HW := hid hW
    have HO := hid hO
    clear hG hB hW hO
    by_cases hlt2 : i < 8
    · have hc5 := hR.cF (i := 5) (by omega) (by omega)
      rw [HF.out] at hc5
      go_wp2_with fail
      refine (highFirst_any hR hs).mono ?_
      rintro e w1 ⟨k1, x1, v, rfl, h1, ho1, g1, v0, v1, hv⟩
      have HV := hid hv
      clear hv
      have hr1 := ho1.row hr (fun q => by simp only [One] at q; omega)
      have hcl := hr1.cell hlt2
      have hfz := hr1.frozen i
      clear hc5 hR hr
      go_wp2
      go_roundw
      case rel =>
        refine ⟨i + 1, k1, x1, fun j => if j = i then v else ws j, by omega, by go_num, h1.only ((Only.refl (One (w.heap.size + 1)) w1).setOne i _) (fun q => by simp only [One] at q; omega), ⟨t, (hr1.set i _).congr (fun j _ => ?_)⟩, HG.out.trans g1, fun j => ?_, fun q j hj => ?_, ?_⟩
        · simp only [wsCell]
          by_cases e : j = i
          · subst e; simp
          · by_cases e2 : j < i
            · simp [e, e2, show j < i + 1 by omega]
            · simp [e, e2, show ¬ j < i + 1 by omega]
        · dsimp only
          split
          · exact ⟨v0, v1⟩
          · exact HB.out j
        · dsimp only
          by_cases e : j = i
          · subst e
            rw [if_pos rfl, HV.out q, HG.out.pos (g1.left q)]
            simp [wordAt]
          · rw [if_neg e]
            exact HW.out (g1.left q) j (by omega)
        · exact (HO.out.trans (ho1.mono (fun b _ q => Or.inl q))).setCell (p := ⟨w.heap.size + 1, i, none⟩) (fun _ => Or.inr rfl) _
      case measure => simp [intOf]; omega
    · have e8 : i = 8 := by omega
      subst e8
      have q0 : wr.cell? ⟨w.heap.size + 1, 0, none⟩ = some (.int .u16 (ws 0)) := hr.cell (by omega)
      have q1 : wr.cell? ⟨w.heap.size + 1, 1, none⟩ = some (.int .u16 (ws 1)) := hr.cell (by omega)
      have q2 : wr.cell? ⟨w.heap.size + 1, 2, none⟩ = some (.int .u16 (ws 2)) := hr.cell (by omega)
      have q3 : wr.cell? ⟨w.heap.size + 1, 3, none⟩ = some (.int .u16 (ws 3)) := hr.cell (by omega)
      have q4 : wr.cell? ⟨w.heap.size + 1, 4, none⟩ = some (.int .u16 (ws 4)) := hr.cell (by omega)
      have q5 : wr.cell? ⟨w.heap.size + 1, 5, none⟩ = some (.int .u16 (ws 5)) := hr.cell (by omega)
      have q6 : wr.cell? ⟨w.heap.size + 1, 6, none⟩ = some (.int .u16 (ws 6)) := hr.cell (by omega)
      have q7 : wr.cell? ⟨w.heap.size + 1, 7, none⟩ = some (.int .u16 (ws 7)) := hr.cell (by omega)
      have r2 : wr.rowIs w.heap.size 86 8 (fun _ => .int .u16 0) := by
        have r := World.rowIs_alloc w #[.int .u16 0, .int .u16 0, .int .u16 0, .int .u16 0, .int .u16 0, .int .u16 0, .int .u16 0, .int .u16 0] 86 (fun _ => .int .u16 0) (fun i hi => by
          have hi : i < 8 := hi
          have e : i = 0 ∨ i = 1 ∨ i = 2 ∨ i = 3 ∨ i = 4 ∨ i = 5 ∨ i = 6 ∨ i = 7 := by omega
          rcases e with e | e | e | e | e | e | e | e <;> subst e <;> rfl)
        exact HO.out.row (((Only.refl Nob _).alloc _).row r (fun q => q)) (fun q => by simp only [RdTwo] at q; omega)
      have z0 := r2.cell (show 0 < 8 by omega)
      have z1 := r2.cell (show 1 < 8 by omega)
      have z2 := r2.cell (show 2 < 8 by omega)
      have z3 := r2.cell (show 3 < 8 by omega)
      have z4 := r2.cell (show 4 < 8 by omega)
      have z5 := r2.cell (show 5 < 8 by omega)
      have z6 := r2.cell (show 6 < 8 by omega)
      have z7 := r2.cell (show 7 < 8 by omega)
      have f0 := r2.frozen 0
      have f1 := r2.frozen 1
      have f2 := r2.frozen 2
      have f3 := r2.frozen 3
      have f4 := r2.frozen 4
      have f5 := r2.frozen 5
      have f6 := r2.frozen 6
      have f7 := r2.frozen 7
      have HR := hid hR
      have R2 := hid r2
      clear hr r2 hR
      go_wp2
      have o1 : Only (One w.heap.size) wr ((((((((wr.setCell ⟨w.heap.size, 0, none⟩ (.int .u16 (ws 0))).setCell ⟨w.heap.size, 1, none⟩ (.int .u16 (ws 1))).setCell ⟨w.heap.size, 2, none⟩ (.int .u16 (ws 2))).setCell ⟨w.heap.size, 3, none⟩ (.int .u16 (ws 3))).setCell ⟨w.heap.size, 4, none⟩ (.int .u16 (ws 4))).setCell ⟨w.heap.size, 5, none⟩ (.int .u16 (ws 5))).setCell ⟨w.heap.size, 6, none⟩ (.int .u16 (ws 6))).setCell ⟨w.heap.size, 7, none⟩ (.int .u16 (ws 7))) := (((((((((Only.refl _ _).setOne _ _).setOne _ _).setOne _ _).setOne _ _).setOne _ _).setOne _ _).setOne _ _).setOne _ _)
      refine bodyPost_ret (v := .agg #[.int .u16 (ws 0), .int .u16 (ws 1), .int .u16 (ws 2), .int .u16 (ws 3), .int .u16 (ws 4), .int .u16 (ws 5), .int .u16 (ws 6), .int .u16 (ws 7)]) (by simp [results, Tryz.results128, go_sem, z0, z1, z2, z3, z4, z5, z6, z7]) rfl ⟨k', x', ws, rfl, HR.out.only o1 (fun q => by simp only [One] at q; omega), ?_, HG.out, HB.out, HW.out⟩
      have o2 : Only (One rb) w wr := (((Only.refl (One rb) w).alloc _).alloc _).after HO.out (fun b hb q => by simp only [RdTwo] at q; simp only [One]; omega)
      exact o2.after o1 (fun b hb q => by simp only [One] at q; omega)
end Go.Proofs.YtfcepnhknmbaaaaGreat

/- The contract of a reader's bits. -/
namespace Go.Proofs.YtfcepnhknmbaaaaGreat
open Go.RowKit Go.Deep

/-- Bytes of l from o on, as one number. -/
def numTo (l : List Nat) (o : Nat) : Nat → Nat
  | 0 => 0
  | i + 1 => numTo l o i + bt l (o + i) * 2 ^ (8 * i)

theorem or64 {X B i : Nat} (hX : X < 2 ^ (8 * i)) (hB : B < 256) (hi : i < 8) : bits BinOp.or IntKind.u64 ((X : Nat) : Int) (IntKind.u64.wrap ((B : Nat) * 2 ^ (8 * i))) = ((X + B * 2 ^ (8 * i) : Nat) : Int) ∧ X + B * 2 ^ (8 * i) < 2 ^ (8 * (i + 1)) := by
  have hp : 2 ^ (8 * (i + 1)) = 256 * 2 ^ (8 * i) := by
    rw [show 8 * (i + 1) = 8 * i + 8 by omega, Nat.pow_add]
    omega
  have h64 : 2 ^ (8 * (i + 1)) ≤ 2 ^ 64 := Nat.pow_le_pow_right (by omega) (by omega)
  have hmul : B * 2 ^ (8 * i) ≤ 255 * 2 ^ (8 * i) := Nat.mul_le_mul_right _ (by omega)
  have hlt : X + B * 2 ^ (8 * i) < 2 ^ (8 * (i + 1)) := by omega
  have e64 : (2 : Nat) ^ 64 = 18446744073709551616 := by decide
  have e : ((B : Nat) : Int) * 2 ^ (8 * i) = ((B * 2 ^ (8 * i) : Nat) : Int) := by simp
  refine ⟨?_, hlt⟩
  rw [e, IntKind.wrap_u64, Int.emod_eq_of_lt (by omega) (by omega), u64_or_nat _ _ (by omega) (by omega)]
  congr 1
  rw [Nat.add_comm, Nat.or_comm]
  have := Nat.two_pow_add_eq_or_of_lt (i := 8 * i) (b := X) hX B
  rw [Nat.mul_comm B, this]

set_option maxRecDepth 100000 in
set_option maxHeartbeats 1000000 in
theorem bits_any {w : World} {rb : Nat} {s : ByteArray} {k : Nat} {x : Bool} {F : Nat → Value} (h : Rd w rb s k x F) (hs : s.size ≤ maxLen) :
    Calls Tryz.prog 130 #[pt rb] w fun e w' => ∃ (k' : Nat) (x' : Bool) (X : Nat), e = .returned (.int .u64 (X : Int)) ∧ Rd w' rb s k' x' F ∧ Only (One rb) w w' ∧ Got s.size k x k' x' 8 ∧ X < 2 ^ 64 ∧ (x' = false → X = numTo (nats s) k 8) := by
  have HLE := hid h.le
  go_enter Tryz.func130, Tryz.ntmps130
  go_wp2
  go_loopw [3, 5] (fun v c wr => ∃ (i k' : Nat) (x' : Bool) (X : Nat), i ≤ 8 ∧ c = .int .i64 i ∧ v = .int .u64 (X : Int) ∧ Rd wr rb s k' x' F ∧ Only (One rb) w wr ∧ Got s.size k x k' x' i ∧ X < 2 ^ (8 * i) ∧ (x' = false → X = numTo (nats s) k i)) (fun _ c _ => 8 - (intOf c).toNat)
  case atStart => exact ⟨0, k, x, 0, by omega, rfl, rfl, h, Only.refl _ _, Got.refl _ _ _ HLE.out, by simp, fun _ => rfl⟩
  case round =>
    clear h
    obtain ⟨i, k', x', X, hi, rfl, rfl, hR, hO, hG, hX, hN⟩ := hrel
    have HO := hid hO
    have HG := hid hG
    have HX := hid hX
    have HN := hid hN
    clear hO hG hX hN
    by_cases hlt : i < 8
    · go_wp2_with fail
      refine (rtake_any hR hs).mono ?_
      rintro e w1 ⟨k1, x1, b, rfl, h1, ho1, g1, b0, b1, hb⟩
      have HB := hid hb
      clear hb hR
      obtain ⟨B, rfl⟩ := Int.eq_ofNat_of_zero_le b0
      obtain ⟨o1, o2⟩ := or64 HX.out (show B < 256 by omega) hlt
      have HO1 := hid o1
      have HO2 := hid o2
      clear o1 o2
      go_wp2
      go_roundw
      case rel =>
        refine ⟨i + 1, k1, x1, X + B * 2 ^ (8 * i), by omega, by go_num, by rw [HO1.out], h1, HO.out.trans ho1, HG.out.trans g1, HO2.out, fun q => ?_⟩
        have hb := HB.out q
        rw [HG.out.pos (g1.left q)] at hb
        rw [numTo, ← HN.out (g1.left q), ← Int.ofNat.inj hb]
      case measure => simp [intOf]; omega
    · have e8 : i = 8 := by omega
      subst e8
      go_wp2
      go_ret
      exact ⟨k', x', X, rfl, hR, HO.out, HG.out, HX.out, HN.out⟩
end Go.Proofs.YtfcepnhknmbaaaaGreat

/- Bits of 64, as the program asks for them. -/
namespace Go.Proofs.YtfcepnhknmbaaaaGreat
open Go.RowKit Go.Deep

theorem bit_test (x i : Nat) : bit x i = x.testBit i := by
  rw [bit, Nat.testBit_eq_decide_div_mod_eq, Bool.eq_iff_iff]
  simp
theorem e64 : (2 : Nat) ^ 64 = 18446744073709551616 := by decide
theorem pow64 {p : Nat} (hp : p < 64) : 2 ^ p < 18446744073709551616 := by
  rw [← e64]; exact Nat.pow_lt_pow_right (by omega) hp
theorem and64 {X p : Nat} (hX : X < 2 ^ 64) (hp : p < 64) : (bits BinOp.and IntKind.u64 ((X : Nat) : Int) (IntKind.u64.wrap (2 ^ p)) != 0) = bit X p := by
  have h1 := pow64 hp
  rw [e64] at hX
  have e : (2 : Int) ^ p = ((2 ^ p : Nat) : Int) := by simp
  have h0 : 0 < 2 ^ p := Nat.two_pow_pos p
  rw [e]
  generalize hT : 2 ^ p = T at *
  rw [IntKind.wrap_u64, Int.emod_eq_of_lt (by omega) (by omega), u64_and_nat _ _ hX h1, ← hT, nat_bit, bit]
  have hm : X / 2 ^ p % 2 < 2 := Nat.mod_lt _ (by omega)
  generalize X / 2 ^ p % 2 = y at *
  rw [hT]
  have hy : y = 0 ∨ y = 1 := by omega
  rcases hy with rfl | rfl
  · simp
  · rw [Bool.eq_iff_iff]
    simp only [bne_iff_ne, ne_eq, beq_iff_eq]
    exact ⟨fun _ => trivial, fun _ h => by omega⟩
theorem andNot64 {X Y Z : Nat} (hX : X < 2 ^ 64) (hY : Y < 2 ^ 64) (hZ : Z < 2 ^ 64) :
    (bits BinOp.andNot IntKind.u64 (bits BinOp.or IntKind.u64 ((Y : Nat) : Int) ((Z : Nat) : Int)) ((X : Nat) : Int) == 0) = true ↔ ∀ p, p < 64 → bit Y p = true ∨ bit Z p = true → bit X p = true := by
  have ho : Y ||| Z < 2 ^ 64 := Nat.or_lt_two_pow hY hZ
  have hX' := hX
  rw [e64] at hX hY hZ ho
  rw [u64_or_nat _ _ hY hZ, u64_andNot_nat _ _ ho hX]
  have e : 18446744073709551615 - X = 2 ^ 64 - (X + 1) := by rw [e64]; omega
  rw [e]
  have hz : ((((Y ||| Z) &&& (2 ^ 64 - (X + 1)) : Nat) : Int) == 0) = true ↔ (Y ||| Z) &&& (2 ^ 64 - (X + 1)) = 0 := by
    simp only [beq_iff_eq]
    omega
  rw [hz]
  constructor
  · intro h p hp hq
    have := congrArg (fun n => n.testBit p) h
    simp only [Nat.testBit_and, Nat.testBit_or, Nat.testBit_two_pow_sub_succ hX', Nat.zero_testBit, decide_eq_true hp, Bool.true_and] at this
    rw [bit_test, bit_test] at hq
    rw [bit_test]
    rcases hq with q | q
    · rw [q] at this
      simpa using this
    · rw [q] at this
      simpa using this
  · intro h
    apply Nat.eq_of_testBit_eq
    intro i
    simp only [Nat.testBit_and, Nat.testBit_or, Nat.testBit_two_pow_sub_succ hX', Nat.zero_testBit]
    by_cases hi : i < 64
    · have := h i hi
      rw [bit_test, bit_test, bit_test] at this
      rw [decide_eq_true hi, Bool.true_and]
      cases hy : Y.testBit i <;> cases hz : Z.testBit i <;> cases hx : X.testBit i <;> simp_all
    · rw [decide_eq_false hi]
      simp

theorem numTo_lt {l : List Nat} (hb : ∀ x ∈ l, x < 256) (o : Nat) : ∀ n, numTo l o n < 2 ^ (8 * n)
  | 0 => by simp [numTo]
  | n + 1 => by
    have h1 := numTo_lt hb o n
    have h2 := bytes_bt hb (o + n)
    have hp : 2 ^ (8 * (n + 1)) = 256 * 2 ^ (8 * n) := by
      rw [show 8 * (n + 1) = 8 * n + 8 by omega, Nat.pow_add]
      omega
    have hm : bt l (o + n) * 2 ^ (8 * n) ≤ 255 * 2 ^ (8 * n) := Nat.mul_le_mul_right _ (by omega)
    rw [numTo, hp]
    omega
theorem numTo_bit {l : List Nat} (hb : ∀ x ∈ l, x < 256) (o : Nat) : ∀ n p, p < 8 * n → bit (numTo l o n) p = bit (bt l (o + p / 8)) (p % 8)
  | n + 1, p, hp => by
    have h1 := numTo_lt hb o n
    by_cases e : p < 8 * n
    · rw [← numTo_bit hb o n p e]
      simp only [bit, numTo]
      have hpow : 2 ^ (8 * n) = 2 ^ p * (2 * 2 ^ (8 * n - p - 1)) := by
        rw [← Nat.mul_assoc, ← Nat.pow_succ, ← Nat.pow_add]
        congr 1
        omega
      rw [hpow, show bt l (o + n) * (2 ^ p * (2 * 2 ^ (8 * n - p - 1))) = 2 ^ p * (2 * (bt l (o + n) * 2 ^ (8 * n - p - 1))) by
        rw [Nat.mul_left_comm]; congr 1; rw [Nat.mul_left_comm], Nat.add_mul_div_left _ _ (Nat.two_pow_pos p), Nat.add_mul_mod_self_left]
    · obtain ⟨i, rfl⟩ : ∃ i, p = 8 * n + i := ⟨p - 8 * n, by omega⟩
      rw [show (8 * n + i) / 8 = n by omega, show (8 * n + i) % 8 = i by omega]
      simp only [bit, numTo]
      rw [Nat.pow_add, ← Nat.div_div_eq_div_mul, Nat.mul_comm (bt l (o + n)), Nat.add_mul_div_left _ _ (Nat.two_pow_pos _), Nat.div_eq_of_lt h1, Nat.zero_add]
end Go.Proofs.YtfcepnhknmbaaaaGreat

/- The contract of a reader's listed: forms 1 and 2. -/
namespace Go.Proofs.YtfcepnhknmbaaaaGreat
open Go.RowKit Go.Deep

theorem row_put {w : World} {gb : Nat} {t : TypeId} {P : Pic} (r : w.rowIs gb t 641 (picCell P)) {N : Nat} (a b : Bool) (f : Nat → Int) (Q : Pic) (hQ : Q.root = P.root ∧ Q.pr = (fun q => if q = N then a else P.pr q) ∧ Q.wr = (fun q => if q = N then b else P.wr q) ∧ Q.wd = (fun q k => if q = N then f k else P.wd q k)) :
    (((((((((((w.setCell ⟨gb, 1 + N * 10, none⟩ (.bool a)).setCell ⟨gb, 1 + N * 10 + 1, none⟩ (.bool b)).setCell ⟨gb, 1 + N * 10 + 2, none⟩ (.int .u16 (f 0))).setCell ⟨gb, 1 + N * 10 + 3, none⟩ (.int .u16 (f 1))).setCell ⟨gb, 1 + N * 10 + 4, none⟩ (.int .u16 (f 2))).setCell ⟨gb, 1 + N * 10 + 5, none⟩ (.int .u16 (f 3))).setCell ⟨gb, 1 + N * 10 + 6, none⟩ (.int .u16 (f 4))).setCell ⟨gb, 1 + N * 10 + 7, none⟩ (.int .u16 (f 5))).setCell ⟨gb, 1 + N * 10 + 8, none⟩ (.int .u16 (f 6))).setCell ⟨gb, 1 + N * 10 + 9, none⟩ (.int .u16 (f 7)))).rowIs gb t 641 (picCell Q) := by
  refine ((((((((((r.set _ _).set _ _).set _ _).set _ _).set _ _).set _ _).set _ _).set _ _).set _ _).set _ _).congr (fun j _ => ?_)
  obtain ⟨q0, q1, q2, q3⟩ := hQ
  by_cases h0 : j = 0
  · subst h0
    simp [picCell, q0]
    omega
  · obtain ⟨p, i, hi, rfl⟩ : ∃ p i, i < 10 ∧ j = 1 + p * 10 + i := ⟨(j - 1) / 10, (j - 1) % 10, by omega, by omega⟩
    have hpc : ∀ R : Pic, picCell R (1 + p * 10 + i) = pageCell R p i := fun R => by
      rw [picCell, if_neg (by omega), show (1 + p * 10 + i - 1) / 10 = p by omega, show (1 + p * 10 + i - 1) % 10 = i by omega]
    rw [hpc, hpc]
    by_cases e : p = N
    · subst e
      have e : i = 0 ∨ i = 1 ∨ i = 2 ∨ i = 3 ∨ i = 4 ∨ i = 5 ∨ i = 6 ∨ i = 7 ∨ i = 8 ∨ i = 9 := by omega
      rcases e with e | e | e | e | e | e | e | e | e | e <;> subst e <;> simp [pageCell, q1, q2, q3]
    · have hz : pageCell Q p i = pageCell P p i := by simp [pageCell, q1, q2, q3, e]
      rw [hz, if_neg (by omega), if_neg (by omega), if_neg (by omega), if_neg (by omega), if_neg (by omega), if_neg (by omega), if_neg (by omega), if_neg (by omega), if_neg (by omega), if_neg (by omega)]

/-- What is known at page i. -/
structure LRel (w wr : World) (rb gb : Nat) (s : ByteArray) (F : Nat → Value) (fl : Bool) (r : Int) (h : Nat) (x : Bool) (i : Nat) (L : Nat) (k' : Nat) (x' : Bool) (P : Pic) : Prop where
  rd : Rd wr rb s k' x' F
  row : ∃ t, wr.rowIs gb t 641 (picCell P)
  only : Only (RdTwo rb gb) w wr
  bd : L ≤ 256
  iff : x' = false ↔ (x = false ∧ h + 1 ≤ s.size ∧ lOk (nats s) fl h i ∧ lAt fl h i ≤ s.size)
  pos : x' = false → k' = lAt fl h i ∧ P = lPic r (nats s) fl h i ∧ L = lLeast (nats s) fl h i

/-- It went wrong at page i: then the bytes are wrong. -/
theorem LRel.early {w wr : World} {rb gb : Nat} {s : ByteArray} {F : Nat → Value} {fl : Bool} {r : Int} {h : Nat} {x : Bool} {i L k' k1 k2 C N : Nat} {x' x1 x2 : Bool} {P : Pic} (hr : LRel w wr rb gb s F fl r h x i L k' x' P)
    (g1 : Got s.size h x k1 x1 1) (hC : x1 = false → ((C : Nat) : Int) = (bt (nats s) h : Nat)) (hi : i < C) (g2 : Got s.size k' x' k2 x2 1) (hN : x2 = false → ((N : Nat) : Int) = (bt (nats s) k' : Nat)) (hbad : x2 = true ∨ ¬ (L ≤ N ∧ N < 64)) :
    ¬ (x = false ∧ h + 1 ≤ s.size ∧ lOk (nats s) fl h (bt (nats s) h) ∧ lAt fl h (bt (nats s) h) ≤ s.size) := by
  rintro ⟨q1, q2, q3, q4⟩
  have hC' := hC (g1.iff.2 ⟨q1, q2⟩)
  have hlt : i + 1 ≤ bt (nats s) h := by omega
  have o1 := lOk_le hlt q3
  have o2 := Nat.le_trans (lAt_le (fl := fl) (h := h) hlt) q4
  have o3 := lAt_succ fl h i
  have o4 : 17 ≤ lE fl := by cases fl <;> simp [lE]
  have hx' := hr.iff.2 ⟨q1, q2, o1.1, by omega⟩
  obtain ⟨p1, p2, p3⟩ := hr.pos hx'
  have hx2 := g2.iff.2 ⟨hx', by omega⟩
  have hN' := hN hx2
  have hNe : N = lN (nats s) fl h i := by rw [lN, ← p1]; omega
  rcases hbad with q | q
  · rw [hx2] at q; cases q
  · refine q ⟨?_, ?_⟩
    · rw [p3, hNe]; exact o1.2.1
    · rw [hNe]; exact o1.2.2.1

theorem LRel.next1 {w wr w4 : World} {rb gb : Nat} {s : ByteArray} {F : Nat → Value} {r : Int} {h : Nat} {x : Bool} {i L k' k2 k4 N : Nat} {x' x4 : Bool} {P : Pic} {ws : Nat → Int} (hr : LRel w wr rb gb s F false r h x i L k' x' P)
    (g2 : Got s.size k' x' k2 false 1) (hN : ((N : Nat) : Int) = (bt (nats s) k' : Nat)) (ok : L ≤ N ∧ N < 64) (g4 : Got s.size k2 false k4 x4 16) (hw : x4 = false → ws = fun j => wordAt true (nats s) k2 j)
    (h4 : Rd w4 rb s k4 x4 F) (r4 : ∃ t, w4.rowIs gb t 641 (picCell (P.put N true ws))) (o4 : Only (RdTwo rb gb) w w4) : LRel w w4 rb gb s F false r h x (i + 1) (N + 1) k4 x4 (P.put N true ws) := by
  obtain ⟨hx', _⟩ := g2.iff.1 rfl
  obtain ⟨p1, p2, p3⟩ := hr.pos hx'
  obtain ⟨i1, i2, i3, i4⟩ := hr.iff.1 hx'
  have hk2 := g2.pos rfl
  have e := lAt_succ false h i
  rw [lE_false] at e
  have hNe : N = lN (nats s) false h i := by rw [lN, ← p1]; omega
  have hok : lOk (nats s) false h (i + 1) := ⟨i3, by rw [← p3, ← hNe]; exact ok.1, by rw [← hNe]; exact ok.2, fun q => by cases q⟩
  refine ⟨h4, r4, o4, by omega, ?_, fun q => ⟨?_, ?_, ?_⟩⟩
  · rw [g4.iff]
    constructor
    · rintro ⟨_, q⟩; exact ⟨i1, i2, hok, by omega⟩
    · rintro ⟨_, _, _, q⟩; exact ⟨rfl, by omega⟩
  · rw [g4.pos q]; omega
  · rw [hw q, lPic, ← p2, ← hNe]
    congr 1
    funext j
    show wordAt true (nats s) k2 j = wordAt (!false) (nats s) (lAt false h i + 1) j
    rw [hk2, p1]; rfl
  · rw [lLeast, hNe]

theorem LRel.next2 {w wr w4 : World} {rb gb : Nat} {s : ByteArray} {F : Nat → Value} {r : Int} {h : Nat} {x : Bool} {i L k' k2 k3 k4 N : Nat} {x' x3 x4 b : Bool} {P : Pic} {ws : Nat → Int} (hr : LRel w wr rb gb s F true r h x i L k' x' P)
    (g2 : Got s.size k' x' k2 false 1) (hN : ((N : Nat) : Int) = (bt (nats s) k' : Nat)) (ok : L ≤ N ∧ N < 64) (g3 : x3 = false ↔ (k2 + 1 ≤ s.size ∧ bt (nats s) k2 ≤ 1)) (p3' : x3 = false → k3 = k2 + 1 ∧ b = (bt (nats s) k2 == 1)) (g4 : Got s.size k3 x3 k4 x4 16) (hw : x4 = false → ws = fun j => wordAt false (nats s) k3 j)
    (h4 : Rd w4 rb s k4 x4 F) (r4 : ∃ t, w4.rowIs gb t 641 (picCell (P.put N b ws))) (o4 : Only (RdTwo rb gb) w w4) : LRel w w4 rb gb s F true r h x (i + 1) (N + 1) k4 x4 (P.put N b ws) := by
  obtain ⟨hx', _⟩ := g2.iff.1 rfl
  obtain ⟨p1, p2, p3⟩ := hr.pos hx'
  obtain ⟨i1, i2, i3, i4⟩ := hr.iff.1 hx'
  have hk2 := g2.pos rfl
  have e := lAt_succ true h i
  rw [lE_true] at e
  have hNe : N = lN (nats s) true h i := by rw [lN, ← p1]; omega
  refine ⟨h4, r4, o4, by omega, ?_, fun q => ?_⟩
  · rw [g4.iff]
    constructor
    · rintro ⟨q1, q2⟩
      obtain ⟨q3, q4⟩ := g3.1 q1
      have := (p3' q1).1
      exact ⟨i1, i2, ⟨i3, by rw [← p3, ← hNe]; exact ok.1, by rw [← hNe]; exact ok.2, fun _ => by rw [← p1, ← hk2]; exact q4⟩, by omega⟩
    · rintro ⟨_, _, q, q2⟩
      have q3 : x3 = false := g3.2 ⟨by omega, by rw [hk2, p1]; exact q.2.2.2 rfl⟩
      have := (p3' q3).1
      exact ⟨q3, by omega⟩
  · have hx3 := g4.left q
    obtain ⟨a1, a2⟩ := p3' hx3
    refine ⟨by rw [g4.pos q]; omega, ?_, by rw [lLeast, hNe]⟩
    rw [hw q, lPic, ← p2, ← hNe]
    have e1 : lWr (nats s) true h i = b := by
      rw [a2, lWr, if_pos rfl, hk2, p1]
    have e2 : lW (nats s) true h i = fun j => wordAt false (nats s) k3 j := by
      funext j
      show wordAt (!true) (nats s) (lAt true h i + 2) j = wordAt false (nats s) k3 j
      rw [a1, hk2, p1]; rfl
    rw [e1, e2]

theorem wordsHigh_all {w : World} {rb : Nat} {s : ByteArray} {k : Nat} {x : Bool} {F : Nat → Value} (h : Rd w rb s k x F) (hs : s.size ≤ maxLen) (hF : F 5 = .func (.func 117) #[pt rb] #[]) :
    Calls Tryz.prog 128 #[pt rb] w fun e w' => ∃ (k' : Nat) (x' : Bool) (ws : Nat → Int), e = .returned (.agg #[.int .u16 (ws 0), .int .u16 (ws 1), .int .u16 (ws 2), .int .u16 (ws 3), .int .u16 (ws 4), .int .u16 (ws 5), .int .u16 (ws 6), .int .u16 (ws 7)]) ∧ Rd w' rb s k' x' F ∧ Only (One rb) w w' ∧ Got s.size k x k' x' 16 ∧ (x' = false → ws = fun j => wordAt true (nats s) k j) := by
  refine (wordsHigh_any h hs hF).mono ?_
  rintro e w' ⟨k', x', ws, rfl, h1, h2, h3, _, h5⟩
  cases x' with
  | true => exact ⟨k', true, ws, rfl, h1, h2, h3, fun q => by cases q⟩
  | false =>
    have h5 := h5 rfl
    refine ⟨k', false, fun j => wordAt true (nats s) k j, ?_, h1, h2, h3, fun _ => rfl⟩
    rw [h5 0 (by omega), h5 1 (by omega), h5 2 (by omega), h5 3 (by omega), h5 4 (by omega), h5 5 (by omega), h5 6 (by omega), h5 7 (by omega)]
theorem wordsLow_all {w : World} {rb : Nat} {s : ByteArray} {k : Nat} {x : Bool} {F : Nat → Value} (h : Rd w rb s k x F) (hs : s.size ≤ maxLen) (hF : F 5 = .func (.func 121) #[pt rb] #[]) :
    Calls Tryz.prog 128 #[pt rb] w fun e w' => ∃ (k' : Nat) (x' : Bool) (ws : Nat → Int), e = .returned (.agg #[.int .u16 (ws 0), .int .u16 (ws 1), .int .u16 (ws 2), .int .u16 (ws 3), .int .u16 (ws 4), .int .u16 (ws 5), .int .u16 (ws 6), .int .u16 (ws 7)]) ∧ Rd w' rb s k' x' F ∧ Only (One rb) w w' ∧ Got s.size k x k' x' 16 ∧ (x' = false → ws = fun j => wordAt false (nats s) k j) := by
  refine (wordsLow_any h hs hF).mono ?_
  rintro e w' ⟨k', x', ws, rfl, h1, h2, h3, _, h5⟩
  cases x' with
  | true => exact ⟨k', true, ws, rfl, h1, h2, h3, fun q => by cases q⟩
  | false =>
    have h5 := h5 rfl
    refine ⟨k', false, fun j => wordAt false (nats s) k j, ?_, h1, h2, h3, fun _ => rfl⟩
    rw [h5 0 (by omega), h5 1 (by omega), h5 2 (by omega), h5 3 (by omega), h5 4 (by omega), h5 5 (by omega), h5 6 (by omega), h5 7 (by omega)]

theorem page_cells {w : World} {gb : Nat} {t : TypeId} {P : Pic} (r : w.rowIs gb t 641 (picCell P)) {N : Nat} (hN : N < 64) : (∀ i, i < 10 → ∃ v, w.cell? ⟨gb, 1 + N * 10 + i, none⟩ = some v) ∧ ∀ i, w.frozen? ⟨gb, i, none⟩ = false :=
  ⟨fun i hi => ⟨_, r.cell (show 1 + N * 10 + i < 641 by omega)⟩, r.frozen⟩

set_option maxRecDepth 100000 in
set_option maxHeartbeats 4000000 in
theorem listed1_any {w : World} {rb gb : Nat} {s : ByteArray} {h : Nat} {x : Bool} {F : Nat → Value} {t : TypeId} {r : Int} (hR : Rd w rb s h x F) (hs : s.size ≤ maxLen) (hF4 : F 4 = .func (.func 116) #[pt rb] #[]) (hF5 : F 5 = .func (.func 117) #[pt rb] #[])
   (hP : w.rowIs gb t 641 (picCell (zeroPic r))) (hne : rb ≠ gb) :
    Calls Tryz.prog 114 #[pt rb, .pointer (some ⟨gb, 1, none⟩)] w fun e w' => ∃ (k' : Nat) (x' : Bool) (P : Pic), e = .returned (.tuple #[]) ∧ Rd w' rb s k' x' F ∧ (∃ t, w'.rowIs gb t 641 (picCell P)) ∧ Only (RdTwo rb gb) w w' ∧
      (x' = false ↔ (x = false ∧ h + 1 ≤ s.size ∧ lOk (nats s) false h (bt (nats s) h) ∧ lAt false h (bt (nats s) h) ≤ s.size)) ∧ (x' = false → k' = lAt false h (bt (nats s) h) ∧ P = lPic r (nats s) false h (bt (nats s) h)) := by
  have HF4 := hid hF4
  have HF5 := hid hF5
  have hgl := hP.lt
  have hrl := hR.lt
  have HP := hid hP
  clear hF4 hF5 hP
  go_enter Tryz.func114, Tryz.ntmps114
  go_wp2_with fail
  refine (rtake_any hR hs).mono ?_
  rintro e w1 ⟨k1, x1, c, rfl, h1, ho1, g1, c0, c1, hc⟩
  have HC := hid hc
  clear hc hR
  obtain ⟨C, rfl⟩ := Int.eq_ofNat_of_zero_le c0
  have H0 : Hid (LRel w w1 rb gb s F false r h x 0 0 k1 x1 (zeroPic r)) := ⟨h1, ⟨t, ho1.row HP.out (fun q => hne q.symm)⟩, ho1.mono (fun b _ q => Or.inl q), by omega, by rw [g1.iff]; simp [lOk, lAt], fun q => ⟨by rw [g1.pos q]; simp [lAt], rfl, rfl⟩⟩
  have HG1 := hid g1
  clear h1 ho1 g1 HP
  go_wp2_with fail
  go_loopw [4, 10] (fun l c wr => ∃ (i L k' : Nat) (x' : Bool) (P : Pic), i ≤ C ∧ c = .int .i64 i ∧ l = .int .i64 L ∧ LRel w wr rb gb s F false r h x i L k' x' P) (fun _ c _ => C - (intOf c).toNat)
  case atStart => exact ⟨0, 0, k1, x1, zeroPic r, by omega, rfl, rfl, H0.out⟩
  case round =>
    clear H0
    obtain ⟨i, L, k', x', P, hi, rfl, rfl, hRel⟩ := hrel
    have hL := hRel.bd
    have HRel := hid hRel
    clear hRel
    by_cases hlt : i < C
    · go_wp2_with fail
      refine (rtake_any HRel.out.rd hs).mono ?_
      rintro e w2 ⟨k2, x2, b, rfl, h2, ho2, g2, b0, b1, hb⟩
      have HB := hid hb
      have HG2 := hid g2
      clear hb g2
      obtain ⟨N, rfl⟩ := Int.eq_ofNat_of_zero_le b0
      by_cases hok : L ≤ N ∧ N < 64
      · obtain ⟨ok1, ok2⟩ := hok
        have ok1' : (L : Int) ≤ (N : Int) := by omega
        have ok2' : (N : Int) < 64 := by omega
        go_wp2_with fail
        refine (require_any h2 true).mono ?_
        rintro e w3 ⟨rfl, h3, ho3⟩
        rw [show (x2 || !true) = x2 by simp] at h3
        have d1 := h3.c1
        have d4 := h3.cF (i := 4) (by omega) (by omega)
        rw [HF4.out] at d4
        have hO3 : Only (RdTwo rb gb) w w3 := HRel.out.only.trans ((ho2.trans ho3).mono (fun b _ q => Or.inl q))
        obtain ⟨t3, hr3⟩ := HRel.out.row
        have hr3 := (ho2.trans ho3).row hr3 (fun q => hne q.symm)
        have HO3 := hid hO3
        have HR3 := hid hr3
        have hs3 := hO3.size
        clear h2 ho2 ho3 hO3 hr3
        cases hx2 : x2 with
        | true =>
          have HE := hid (HRel.out.early HG1.out HC.out hlt HG2.out HB.out (Or.inl hx2))
          rw [hx2] at d1
          go_wp2_with fail
          exact bodyPost_ret (v := .tuple #[]) (results_none rfl _ _ _) rfl ⟨k2, x2, P, rfl, h3, ⟨t3, HR3.out⟩, HO3.out, ⟨fun q => (by rw [hx2] at q; cases q), fun q => (HE.out q).elim⟩, fun q => (by rw [hx2] at q; cases q)⟩
        | false =>
          subst hx2
          go_wp2_with fail
          refine (always_any _ rb).mono ?_
          rintro e w4 ⟨rfl, rfl⟩
          clear d1 d4
          go_wp2_with fail
          go_region_with (go_at_call 128; refine (wordsHigh_all (h3.nob (Only.refl Nob w3).drew) hs HF5.out).mono ?_; rintro e w5 ⟨k4, x4, ws, rfl, h5, ho5, g5, hws⟩; have hr5 := ho5.row HR3.out.drew (fun q => hne q.symm); have HW5 := hid (And.intro h5 (And.intro ho5 (And.intro g5 hws))); have HR5 := hid hr5; clear h5 ho5 g5 hws; obtain ⟨pc, hfz⟩ := page_cells hr5 ok2; obtain ⟨v0, z0⟩ := pc 0 (by omega); obtain ⟨v1, z1⟩ := pc 1 (by omega); obtain ⟨v2, z2⟩ := pc 2 (by omega); obtain ⟨v3, z3⟩ := pc 3 (by omega); obtain ⟨v4, z4⟩ := pc 4 (by omega); obtain ⟨v5, z5⟩ := pc 5 (by omega); obtain ⟨v6, z6⟩ := pc 6 (by omega); obtain ⟨v7, z7⟩ := pc 7 (by omega); obtain ⟨v8, z8⟩ := pc 8 (by omega); obtain ⟨v9, z9⟩ := pc 9 (by omega); clear pc hr5; rw [Nat.add_zero] at z0)
          all_goals
            obtain ⟨h5, ho5, g5, hws⟩ := HW5.out
            have o10 : Only (One gb) w5 (((((((((((w5.setCell ⟨gb, 1 + N * 10, none⟩ (.bool true)).setCell ⟨gb, 1 + N * 10 + 1, none⟩ (.bool true)).setCell ⟨gb, 1 + N * 10 + 2, none⟩ (.int .u16 (ws 0))).setCell ⟨gb, 1 + N * 10 + 3, none⟩ (.int .u16 (ws 1))).setCell ⟨gb, 1 + N * 10 + 4, none⟩ (.int .u16 (ws 2))).setCell ⟨gb, 1 + N * 10 + 5, none⟩ (.int .u16 (ws 3))).setCell ⟨gb, 1 + N * 10 + 6, none⟩ (.int .u16 (ws 4))).setCell ⟨gb, 1 + N * 10 + 7, none⟩ (.int .u16 (ws 5))).setCell ⟨gb, 1 + N * 10 + 8, none⟩ (.int .u16 (ws 6))).setCell ⟨gb, 1 + N * 10 + 9, none⟩ (.int .u16 (ws 7)))) := ((((((((((Only.refl _ _).setOne _ _).setOne _ _).setOne _ _).setOne _ _).setOne _ _).setOne _ _).setOne _ _).setOne _ _).setOne _ _).setOne _ _
            have HX := hid (HRel.out.next1 HG2.out (HB.out (by first | rfl | trivial)) ⟨ok1, ok2⟩ g5 hws (h5.only o10 hne) ⟨_, row_put HR5.out true true ws (P.put N true ws) ⟨rfl, rfl, rfl, rfl⟩⟩ ((HO3.out.drew).trans ((ho5.mono (fun b _ q => Or.inl q)).trans (o10.mono (fun b _ q => Or.inr q)))))
            clear h5 ho5 g5 hws o10 z0 z1 z2 z3 z4 z5 z6 z7 z8 z9 hfz
            go_wp2_with fail
            go_roundw
            case rel => exact ⟨i + 1, N + 1, _, _, _, by omega, by go_num, by go_num, HX.out⟩
            case measure => simp [intOf]; omega
      · have hokB : (decide ((L : Int) ≤ (N : Int)) && decide ((N : Int) < 64)) = false := by
          rw [Bool.and_eq_false_iff, decide_eq_false_iff_not, decide_eq_false_iff_not]
          omega
        have HE := hid (HRel.out.early HG1.out HC.out hlt HG2.out HB.out (Or.inr hok))
        have key : ∀ w3, Rd w3 rb s k2 (x2 || !false) F → w3.cell? ⟨rb, 1, none⟩ = some (.bool true) := fun w3 h3 => by
          have := h3.c1
          simpa using this
        have HK := hid key
        have HO2 : Hid (∀ w3, Only (One rb) w2 w3 → Only (RdTwo rb gb) w w3 ∧ ∃ t, w3.rowIs gb t 641 (picCell P)) := fun w3 ho3 => by
          obtain ⟨t3, hr3⟩ := HRel.out.row
          exact ⟨HRel.out.only.trans ((ho2.trans ho3).mono (fun b _ q => Or.inl q)), t3, (ho2.trans ho3).row hr3 (fun q => hne q.symm)⟩
        clear key hok
        by_cases hLN : (L : Int) ≤ (N : Int)
        · have hN64 : ¬ (N : Int) < 64 := by
            intro q
            rw [decide_eq_true hLN, decide_eq_true q] at hokB
            cases hokB
          have hN64' : decide ((N : Int) < 64) = false := decide_eq_false hN64
          clear hokB
          go_wp2_with fail
          refine (require_any h2 false).mono ?_
          rintro e w3 ⟨rfl, h3, ho3⟩
          have d1 := HK.out w3 h3
          obtain ⟨o3, r3⟩ := HO2.out w3 ho3
          have R3 := hid r3
          clear h2 ho2 ho3 r3
          go_wp2_with fail
          exact bodyPost_ret (v := .tuple #[]) (results_none rfl _ _ _) rfl ⟨k2, x2 || !false, P, rfl, h3, R3.out, o3, ⟨fun q => (by simp at q), fun q => (HE.out q).elim⟩, fun q => (by simp at q)⟩
        · clear hokB
          go_wp2_with fail
          refine (require_any h2 false).mono ?_
          rintro e w3 ⟨rfl, h3, ho3⟩
          have d1 := HK.out w3 h3
          obtain ⟨o3, r3⟩ := HO2.out w3 ho3
          have R3 := hid r3
          clear h2 ho2 ho3 r3
          go_wp2_with fail
          exact bodyPost_ret (v := .tuple #[]) (results_none rfl _ _ _) rfl ⟨k2, x2 || !false, P, rfl, h3, R3.out, o3, ⟨fun q => (by simp at q), fun q => (HE.out q).elim⟩, fun q => (by simp at q)⟩
    · have HE : Hid (x' = false → i = bt (nats s) h) := fun q => by
        have := HC.out (HG1.out.iff.2 ⟨(HRel.out.iff.1 q).1, (HRel.out.iff.1 q).2.1⟩)
        omega
      have HE2 : Hid (x = false ∧ h + 1 ≤ s.size → i = bt (nats s) h) := fun q => by
        have := HC.out (HG1.out.iff.2 q)
        omega
      go_wp2_with fail
      go_end0
      refine ⟨k', x', P, rfl, HRel.out.rd, HRel.out.row, HRel.out.only, ?_, fun q => ?_⟩
      · constructor
        · intro q
          have := HRel.out.iff.1 q
          rw [HE.out q] at this
          exact this
        · intro q
          refine HRel.out.iff.2 ?_
          rw [HE2.out ⟨q.1, q.2.1⟩]
          exact q
      · have := HRel.out.pos q
        rw [HE.out q] at this
        exact ⟨this.1, this.2.1⟩

set_option maxRecDepth 100000 in
set_option maxHeartbeats 4000000 in
theorem listed2_any {w : World} {rb gb : Nat} {s : ByteArray} {h : Nat} {x : Bool} {F : Nat → Value} {t : TypeId} {r : Int} (hR : Rd w rb s h x F) (hs : s.size ≤ maxLen) (hF4 : F 4 = .func (.func 120) #[pt rb] #[]) (hF5 : F 5 = .func (.func 121) #[pt rb] #[])
   (hP : w.rowIs gb t 641 (picCell (zeroPic r))) (hne : rb ≠ gb) :
    Calls Tryz.prog 114 #[pt rb, .pointer (some ⟨gb, 1, none⟩)] w fun e w' => ∃ (k' : Nat) (x' : Bool) (P : Pic), e = .returned (.tuple #[]) ∧ Rd w' rb s k' x' F ∧ (∃ t, w'.rowIs gb t 641 (picCell P)) ∧ Only (RdTwo rb gb) w w' ∧
      (x' = false ↔ (x = false ∧ h + 1 ≤ s.size ∧ lOk (nats s) true h (bt (nats s) h) ∧ lAt true h (bt (nats s) h) ≤ s.size)) ∧ (x' = false → k' = lAt true h (bt (nats s) h) ∧ P = lPic r (nats s) true h (bt (nats s) h)) := by
  have HF4 := hid hF4
  have HF5 := hid hF5
  have hgl := hP.lt
  have hrl := hR.lt
  have HP := hid hP
  clear hF4 hF5 hP
  go_enter Tryz.func114, Tryz.ntmps114
  go_wp2_with fail
  refine (rtake_any hR hs).mono ?_
  rintro e w1 ⟨k1, x1, c, rfl, h1, ho1, g1, c0, c1, hc⟩
  have HC := hid hc
  clear hc hR
  obtain ⟨C, rfl⟩ := Int.eq_ofNat_of_zero_le c0
  have H0 : Hid (LRel w w1 rb gb s F true r h x 0 0 k1 x1 (zeroPic r)) := ⟨h1, ⟨t, ho1.row HP.out (fun q => hne q.symm)⟩, ho1.mono (fun b _ q => Or.inl q), by omega, by rw [g1.iff]; simp [lOk, lAt], fun q => ⟨by rw [g1.pos q]; simp [lAt], rfl, rfl⟩⟩
  have HG1 := hid g1
  clear h1 ho1 g1 HP
  go_wp2_with fail
  go_loopw [4, 10] (fun l c wr => ∃ (i L k' : Nat) (x' : Bool) (P : Pic), i ≤ C ∧ c = .int .i64 i ∧ l = .int .i64 L ∧ LRel w wr rb gb s F true r h x i L k' x' P) (fun _ c _ => C - (intOf c).toNat)
  case atStart => exact ⟨0, 0, k1, x1, zeroPic r, by omega, rfl, rfl, H0.out⟩
  case round =>
    clear H0
    obtain ⟨i, L, k', x', P, hi, rfl, rfl, hRel⟩ := hrel
    have hL := hRel.bd
    have HRel := hid hRel
    clear hRel
    by_cases hlt : i < C
    · go_wp2_with fail
      refine (rtake_any HRel.out.rd hs).mono ?_
      rintro e w2 ⟨k2, x2, b, rfl, h2, ho2, g2, b0, b1, hb⟩
      have HB := hid hb
      have HG2 := hid g2
      clear hb g2
      obtain ⟨N, rfl⟩ := Int.eq_ofNat_of_zero_le b0
      by_cases hok : L ≤ N ∧ N < 64
      · obtain ⟨ok1, ok2⟩ := hok
        have ok1' : (L : Int) ≤ (N : Int) := by omega
        have ok2' : (N : Int) < 64 := by omega
        go_wp2_with fail
        refine (require_any h2 true).mono ?_
        rintro e w3 ⟨rfl, h3, ho3⟩
        rw [show (x2 || !true) = x2 by simp] at h3
        have d1 := h3.c1
        have d4 := h3.cF (i := 4) (by omega) (by omega)
        rw [HF4.out] at d4
        have hO3 : Only (RdTwo rb gb) w w3 := HRel.out.only.trans ((ho2.trans ho3).mono (fun b _ q => Or.inl q))
        obtain ⟨t3, hr3⟩ := HRel.out.row
        have hr3 := (ho2.trans ho3).row hr3 (fun q => hne q.symm)
        have HO3 := hid hO3
        have HR3 := hid hr3
        have hs3 := hO3.size
        clear h2 ho2 ho3 hO3 hr3
        cases hx2 : x2 with
        | true =>
          have HE := hid (HRel.out.early HG1.out HC.out hlt HG2.out HB.out (Or.inl hx2))
          rw [hx2] at d1
          go_wp2_with fail
          exact bodyPost_ret (v := .tuple #[]) (results_none rfl _ _ _) rfl ⟨k2, x2, P, rfl, h3, ⟨t3, HR3.out⟩, HO3.out, ⟨fun q => (by rw [hx2] at q; cases q), fun q => (HE.out q).elim⟩, fun q => (by rw [hx2] at q; cases q)⟩
        | false =>
          subst hx2
          go_wp2_with fail
          refine (flag_any h3 hs).mono ?_
          rintro e w4 ⟨k3, x3, wb, rfl, h4, ho4, g3, p3⟩
          have HG3 := hid (And.intro g3 p3)
          have HO4 := hid (HO3.out.trans (ho4.mono (fun b _ q => Or.inl q)))
          have HR4 := hid (ho4.row HR3.out (fun q => hne q.symm))
          clear d1 d4 g3 p3 ho4 h3
          go_wp2_with fail
          go_region_with (go_at_call 128; refine (wordsLow_all (h4.nob (Only.refl Nob w4).drew) hs HF5.out).mono ?_; rintro e w5 ⟨k4, x4, ws, rfl, h5, ho5, g5, hws⟩; have hr5 := ho5.row HR4.out.drew (fun q => hne q.symm); have HW5 := hid (And.intro h5 (And.intro ho5 (And.intro g5 hws))); have HR5 := hid hr5; clear h5 ho5 g5 hws; obtain ⟨pc, hfz⟩ := page_cells hr5 ok2; obtain ⟨v0, z0⟩ := pc 0 (by omega); obtain ⟨v1, z1⟩ := pc 1 (by omega); obtain ⟨v2, z2⟩ := pc 2 (by omega); obtain ⟨v3, z3⟩ := pc 3 (by omega); obtain ⟨v4, z4⟩ := pc 4 (by omega); obtain ⟨v5, z5⟩ := pc 5 (by omega); obtain ⟨v6, z6⟩ := pc 6 (by omega); obtain ⟨v7, z7⟩ := pc 7 (by omega); obtain ⟨v8, z8⟩ := pc 8 (by omega); obtain ⟨v9, z9⟩ := pc 9 (by omega); clear pc hr5; rw [Nat.add_zero] at z0)
          all_goals
            obtain ⟨h5, ho5, g5, hws⟩ := HW5.out
            have o10 : Only (One gb) w5 (((((((((((w5.setCell ⟨gb, 1 + N * 10, none⟩ (.bool true)).setCell ⟨gb, 1 + N * 10 + 1, none⟩ (.bool wb)).setCell ⟨gb, 1 + N * 10 + 2, none⟩ (.int .u16 (ws 0))).setCell ⟨gb, 1 + N * 10 + 3, none⟩ (.int .u16 (ws 1))).setCell ⟨gb, 1 + N * 10 + 4, none⟩ (.int .u16 (ws 2))).setCell ⟨gb, 1 + N * 10 + 5, none⟩ (.int .u16 (ws 3))).setCell ⟨gb, 1 + N * 10 + 6, none⟩ (.int .u16 (ws 4))).setCell ⟨gb, 1 + N * 10 + 7, none⟩ (.int .u16 (ws 5))).setCell ⟨gb, 1 + N * 10 + 8, none⟩ (.int .u16 (ws 6))).setCell ⟨gb, 1 + N * 10 + 9, none⟩ (.int .u16 (ws 7)))) := ((((((((((Only.refl _ _).setOne _ _).setOne _ _).setOne _ _).setOne _ _).setOne _ _).setOne _ _).setOne _ _).setOne _ _).setOne _ _).setOne _ _
            have HX := hid (HRel.out.next2 HG2.out (HB.out (by first | rfl | trivial)) ⟨ok1, ok2⟩ (by simpa using HG3.out.1) HG3.out.2 g5 hws (h5.only o10 hne) ⟨_, row_put HR5.out true wb ws (P.put N wb ws) ⟨rfl, rfl, rfl, rfl⟩⟩ ((HO4.out.drew).trans ((ho5.mono (fun b _ q => Or.inl q)).trans (o10.mono (fun b _ q => Or.inr q)))))
            clear h5 ho5 g5 hws o10 z0 z1 z2 z3 z4 z5 z6 z7 z8 z9 hfz
            go_wp2_with fail
            go_roundw
            case rel => exact ⟨i + 1, N + 1, _, _, _, by omega, by go_num, by go_num, HX.out⟩
            case measure => simp [intOf]; omega
      · have hokB : (decide ((L : Int) ≤ (N : Int)) && decide ((N : Int) < 64)) = false := by
          rw [Bool.and_eq_false_iff, decide_eq_false_iff_not, decide_eq_false_iff_not]
          omega
        have HE := hid (HRel.out.early HG1.out HC.out hlt HG2.out HB.out (Or.inr hok))
        have key : ∀ w3, Rd w3 rb s k2 (x2 || !false) F → w3.cell? ⟨rb, 1, none⟩ = some (.bool true) := fun w3 h3 => by
          have := h3.c1
          simpa using this
        have HK := hid key
        have HO2 : Hid (∀ w3, Only (One rb) w2 w3 → Only (RdTwo rb gb) w w3 ∧ ∃ t, w3.rowIs gb t 641 (picCell P)) := fun w3 ho3 => by
          obtain ⟨t3, hr3⟩ := HRel.out.row
          exact ⟨HRel.out.only.trans ((ho2.trans ho3).mono (fun b _ q => Or.inl q)), t3, (ho2.trans ho3).row hr3 (fun q => hne q.symm)⟩
        clear key hok
        by_cases hLN : (L : Int) ≤ (N : Int)
        · have hN64 : ¬ (N : Int) < 64 := by
            intro q
            rw [decide_eq_true hLN, decide_eq_true q] at hokB
            cases hokB
          have hN64' : decide ((N : Int) < 64) = false := decide_eq_false hN64
          clear hokB
          go_wp2_with fail
          refine (require_any h2 false).mono ?_
          rintro e w3 ⟨rfl, h3, ho3⟩
          have d1 := HK.out w3 h3
          obtain ⟨o3, r3⟩ := HO2.out w3 ho3
          have R3 := hid r3
          clear h2 ho2 ho3 r3
          go_wp2_with fail
          exact bodyPost_ret (v := .tuple #[]) (results_none rfl _ _ _) rfl ⟨k2, x2 || !false, P, rfl, h3, R3.out, o3, ⟨fun q => (by simp at q), fun q => (HE.out q).elim⟩, fun q => (by simp at q)⟩
        · clear hokB
          go_wp2_with fail
          refine (require_any h2 false).mono ?_
          rintro e w3 ⟨rfl, h3, ho3⟩
          have d1 := HK.out w3 h3
          obtain ⟨o3, r3⟩ := HO2.out w3 ho3
          have R3 := hid r3
          clear h2 ho2 ho3 r3
          go_wp2_with fail
          exact bodyPost_ret (v := .tuple #[]) (results_none rfl _ _ _) rfl ⟨k2, x2 || !false, P, rfl, h3, R3.out, o3, ⟨fun q => (by simp at q), fun q => (HE.out q).elim⟩, fun q => (by simp at q)⟩
    · have HE : Hid (x' = false → i = bt (nats s) h) := fun q => by
        have := HC.out (HG1.out.iff.2 ⟨(HRel.out.iff.1 q).1, (HRel.out.iff.1 q).2.1⟩)
        omega
      have HE2 : Hid (x = false ∧ h + 1 ≤ s.size → i = bt (nats s) h) := fun q => by
        have := HC.out (HG1.out.iff.2 q)
        omega
      go_wp2_with fail
      go_end0
      refine ⟨k', x', P, rfl, HRel.out.rd, HRel.out.row, HRel.out.only, ?_, fun q => ?_⟩
      · constructor
        · intro q
          have := HRel.out.iff.1 q
          rw [HE.out q] at this
          exact this
        · intro q
          refine HRel.out.iff.2 ?_
          rw [HE2.out ⟨q.1, q.2.1⟩]
          exact q
      · have := HRel.out.pos q
        rw [HE.out q] at this
        exact ⟨this.1, this.2.1⟩
end Go.Proofs.YtfcepnhknmbaaaaGreat

/- The contracts of strings.CutPrefix at the mark, and of a reader's tell. -/
namespace Go.Proofs.YtfcepnhknmbaaaaGreat
open Go.RowKit Go.Deep

def cv : ByteArray := ⟨#[67, 86]⟩
def isCV (s : ByteArray) : Bool := (nats s).take 2 == [67, 86]

set_option maxRecDepth 100000 in
set_option maxHeartbeats 400000 in
theorem hasPrefix_any (w : World) (s : ByteArray) (hs : s.size ≤ maxLen) :
    Calls Tryz.prog 127 #[.string s, .string { data := #[67, 86] }] w fun e w' => e = .returned (.bool (isCV s)) ∧ w = w' := by
  unfold maxLen at hs
  by_cases h2 : 2 ≤ s.size
  · have h2' : (2 : Int) ≤ (s.size : Int) := by omega
    have HE : Hid (((s.extract 0 2).toList == [67, 86]) = isCV s) := by
      rw [Hid, isCV, Bool.eq_iff_iff, beq_iff_eq, beq_iff_eq]
      have hx := nats_extract s 0 2
      rw [List.drop_zero] at hx
      rw [← hx, ByteArray.toList_eq]
      constructor
      · intro q
        simp only [nats, q]
        rfl
      · intro q
        have := congrArg toS q
        rw [toS_nats] at this
        rw [this]
        rfl
    go_enter Tryz.func127, Tryz.ntmps127
    go_wp2
    go_ret
    exact ⟨by rw [← HE.out]; rfl, rfl⟩
  · have HE : Hid (isCV s = false) := by
      rw [Hid, isCV, beq_eq_false_iff_ne]
      intro q
      have := congrArg List.length q
      rw [List.length_take, nats_len] at this
      simp at this
      omega
    go_enter Tryz.func127, Tryz.ntmps127
    go_wp2
    go_ret
    exact ⟨by rw [HE.out]; rfl, rfl⟩

set_option maxRecDepth 100000 in
set_option maxHeartbeats 400000 in
theorem cutPrefix_any (w : World) (s : ByteArray) (hs : s.size ≤ maxLen) :
    Calls Tryz.prog 112 #[.string s, .string { data := #[67, 86] }] w fun e w' => e = .returned (.tuple #[.string (if isCV s then s.extract 2 s.size else s), .bool (isCV s)]) ∧ w = w' := by
  cases hc : isCV s with
  | true =>
    have h2 : 2 ≤ s.size := by
      rw [isCV, beq_iff_eq] at hc
      have := congrArg List.length hc
      rw [List.length_take, nats_len] at this
      simp at this
      omega
    have HC := hid hc
    clear hc
    unfold maxLen at hs
    have h2' : (2 : Int) ≤ (s.size : Int) := by omega
    go_enter Tryz.func112, Tryz.ntmps112
    go_wp2_with fail
    refine (hasPrefix_any _ s (by unfold maxLen; omega)).mono ?_
    rintro e w1 ⟨rfl, rfl⟩
    rw [HC.out]
    go_wp2
    go_ret2
    exact ⟨by simp, rfl⟩
  | false =>
    have HC := hid hc
    clear hc
    go_enter Tryz.func112, Tryz.ntmps112
    go_wp2_with fail
    refine (hasPrefix_any _ s hs).mono ?_
    rintro e w1 ⟨rfl, rfl⟩
    rw [HC.out]
    go_wp2
    go_ret2
    exact ⟨by simp, rfl⟩
set_option maxRecDepth 100000 in
set_option maxHeartbeats 400000 in
theorem cutPrefix_by {w : World} {s v : ByteArray} {b : Bool} (h : Calls Tryz.prog 112 #[.string s, .string { data := #[67, 86] }] w fun e w' => e = .returned (.tuple #[.string v, .bool b]) ∧ w = w') :
    Calls Tryz.prog 104 #[.string s, .string { data := #[67, 86] }] w fun e w' => e = .returned (.tuple #[.string v, .bool b]) ∧ w = w' := by
  go_enter Tryz.func104, Tryz.ntmps104
  go_wp2_with fail
  refine h.mono ?_
  rintro e w1 ⟨rfl, rfl⟩
  go_wp2
  go_ret2
  exact ⟨rfl, rfl⟩
theorem cutPrefix_top (w : World) (s : ByteArray) (hs : s.size ≤ maxLen) :
    Calls Tryz.prog 104 #[.string s, .string { data := #[67, 86] }] w fun e w' => e = .returned (.tuple #[.string (if isCV s then s.extract 2 s.size else s), .bool (isCV s)]) ∧ w = w' := cutPrefix_by (cutPrefix_any w s hs)

theorem Rd.setF {w : World} {rb : Nat} {s : ByteArray} {k : Nat} {x : Bool} {F : Nat → Value} (h : Rd w rb s k x F) {i : Nat} (h2 : 2 ≤ i) (v : Value) : Rd (w.setCell ⟨rb, i, none⟩ v) rb s k x (fun j => if j = i then v else F j) := by
  obtain ⟨t, r⟩ := h.row
  refine ⟨⟨t, (r.set i v).congr (fun j _ => ?_)⟩, h.le⟩
  simp only [rdCell]
  by_cases e : j = i
  · subst e
    rw [if_pos rfl, if_neg (by omega), if_neg (by omega), if_pos rfl]
  · rw [if_neg e, if_neg e]

set_option maxRecDepth 100000 in
set_option maxHeartbeats 400000 in
theorem tell1_any {w : World} {rb : Nat} {s : ByteArray} {k : Nat} {x : Bool} {F : Nat → Value} (h : Rd w rb s k x F) :
    Calls Tryz.prog 105 #[pt rb, .int .u8 1] w fun e w' => ∃ F', e = .returned (.bool true) ∧ Rd w' rb s k x F' ∧ Only (One rb) w w' ∧ F' 2 = .func (.func 113) #[pt rb] #[] ∧ F' 3 = .func (.func 114) #[pt rb] #[] ∧ F' 4 = .func (.func 116) #[pt rb] #[] ∧ F' 5 = .func (.func 117) #[pt rb] #[] ∧ F' 6 = .func (.func 115) #[] #[] := by
  have hmf : ∀ (fn : Fn) (first cap : Array Value) (w : World), (Instr.makeFunc fn first cap).run Tryz.prog w = .ok (.func fn first cap) w := fun _ _ _ _ => rfl
  have c2 := h.cF (i := 2) (by omega) (by omega)
  have c3 := h.cF (i := 3) (by omega) (by omega)
  have c4 := h.cF (i := 4) (by omega) (by omega)
  have c5 := h.cF (i := 5) (by omega) (by omega)
  have c6 := h.cF (i := 6) (by omega) (by omega)
  have fz := h.fz
  go_enter Tryz.func105, Tryz.ntmps105
  go_wp2
  go_ret
  exact ⟨_, rfl, ((((h.setF (i := 2) (by omega) _).setF (i := 3) (by omega) _).setF (i := 6) (by omega) _).setF (i := 4) (by omega) _).setF (i := 5) (by omega) _, (((((Only.refl _ _).setOne _ _).setOne _ _).setOne _ _).setOne _ _).setOne _ _, rfl, rfl, rfl, rfl, rfl⟩
set_option maxRecDepth 100000 in
set_option maxHeartbeats 400000 in
theorem tell2_any {w : World} {rb : Nat} {s : ByteArray} {k : Nat} {x : Bool} {F : Nat → Value} (h : Rd w rb s k x F) :
    Calls Tryz.prog 105 #[pt rb, .int .u8 2] w fun e w' => ∃ F', e = .returned (.bool true) ∧ Rd w' rb s k x F' ∧ Only (One rb) w w' ∧ F' 2 = .func (.func 118) #[pt rb] #[] ∧ F' 3 = .func (.func 114) #[pt rb] #[] ∧ F' 4 = .func (.func 120) #[pt rb] #[] ∧ F' 5 = .func (.func 121) #[pt rb] #[] ∧ F' 6 = .func (.func 119) #[] #[] := by
  have hmf : ∀ (fn : Fn) (first cap : Array Value) (w : World), (Instr.makeFunc fn first cap).run Tryz.prog w = .ok (.func fn first cap) w := fun _ _ _ _ => rfl
  have c2 := h.cF (i := 2) (by omega) (by omega)
  have c3 := h.cF (i := 3) (by omega) (by omega)
  have c4 := h.cF (i := 4) (by omega) (by omega)
  have c5 := h.cF (i := 5) (by omega) (by omega)
  have c6 := h.cF (i := 6) (by omega) (by omega)
  have fz := h.fz
  go_enter Tryz.func105, Tryz.ntmps105
  go_wp2
  go_ret
  exact ⟨_, rfl, ((((h.setF (i := 2) (by omega) _).setF (i := 3) (by omega) _).setF (i := 6) (by omega) _).setF (i := 4) (by omega) _).setF (i := 5) (by omega) _, (((((Only.refl _ _).setOne _ _).setOne _ _).setOne _ _).setOne _ _).setOne _ _, rfl, rfl, rfl, rfl, rfl⟩
set_option maxRecDepth 100000 in
set_option maxHeartbeats 400000 in
theorem tell3_any {w : World} {rb : Nat} {s : ByteArray} {k : Nat} {x : Bool} {F : Nat → Value} (h : Rd w rb s k x F) :
    Calls Tryz.prog 105 #[pt rb, .int .u8 3] w fun e w' => ∃ F', e = .returned (.bool true) ∧ Rd w' rb s k x F' ∧ Only (One rb) w w' ∧ F' 2 = .func (.func 118) #[pt rb] #[] ∧ F' 3 = .func (.func 122) #[pt rb] #[] ∧ F' 5 = .func (.func 121) #[pt rb] #[] ∧ F' 6 = .func (.func 99) #[] #[] := by
  have hmf : ∀ (fn : Fn) (first cap : Array Value) (w : World), (Instr.makeFunc fn first cap).run Tryz.prog w = .ok (.func fn first cap) w := fun _ _ _ _ => rfl
  have c2 := h.cF (i := 2) (by omega) (by omega)
  have c3 := h.cF (i := 3) (by omega) (by omega)
  have c4 := h.cF (i := 4) (by omega) (by omega)
  have c5 := h.cF (i := 5) (by omega) (by omega)
  have c6 := h.cF (i := 6) (by omega) (by omega)
  have fz := h.fz
  go_enter Tryz.func105, Tryz.ntmps105
  go_wp2
  go_ret
  exact ⟨_, rfl, (((h.setF (i := 2) (by omega) _).setF (i := 3) (by omega) _).setF (i := 6) (by omega) _).setF (i := 5) (by omega) _, ((((Only.refl _ _).setOne _ _).setOne _ _).setOne _ _).setOne _ _, rfl, rfl, rfl, rfl⟩

set_option maxRecDepth 100000 in
set_option maxHeartbeats 400000 in
theorem tell0_any (w : World) (rb : Nat) (b : Int) (h1 : b ≠ 1) (h2 : b ≠ 2) (h3 : b ≠ 3) :
    Calls Tryz.prog 105 #[pt rb, .int .u8 b] w fun e w' => e = .returned (.bool false) ∧ w = w' := by
  have e1 : (b == 1) = false := by simpa using h1
  have e2 : (b == 2) = false := by simpa using h2
  have e3 : (b == 3) = false := by simpa using h3
  go_enter Tryz.func105, Tryz.ntmps105
  go_wp2
  go_ret
  exact ⟨rfl, rfl⟩
end Go.Proofs.YtfcepnhknmbaaaaGreat
