/- The bytes of a guest, by the document: what they tell ('Valid', 'picOf'), what is written ('encL'). No program is named here. -/
import Derived.WalkKit
namespace Go.Proofs.YtfcepnhknmbaaaaGreat

/-- A guest: its root page; which pages it has; which may be written; their words. -/
structure Pic where
  root : Int
  pr : Nat → Bool
  wr : Nat → Bool
  wd : Nat → Nat → Int
def zeroPic (r : Int) : Pic := ⟨r, fun _ => false, fun _ => false, fun _ _ => 0⟩

structure Pic.Good (P : Pic) : Prop where
  r0 : -1 ≤ P.root
  r1 : P.root < 64
  w : ∀ p k, p < 64 → k < 8 → 0 ≤ P.wd p k ∧ P.wd p k ≤ 65535

/-- Byte i; 0 behind the end. -/
def bt (l : List Nat) (i : Nat) : Nat := l.getD i 0
theorem bt_lt {l : List Nat} {i : Nat} (h : i < l.length) : bt l i = l[i] := by simp [bt, h]
theorem bt_ge {l : List Nat} {i : Nat} (h : l.length ≤ i) : bt l i = 0 := by simp [bt, h]
theorem bt_left {a b : List Nat} {i : Nat} (h : i < a.length) : bt (a ++ b) i = bt a i := by
  rw [bt_lt (by simp; omega), bt_lt h, List.getElem_append_left h]
theorem bt_right {a b : List Nat} (i : Nat) : bt (a ++ b) (a.length + i) = bt b i := by
  by_cases h : i < b.length
  · rw [bt_lt (by simp; omega), bt_lt h, List.getElem_append_right (by omega)]
    congr 1
    omega
  · rw [bt_ge (by simp; omega), bt_ge (by omega)]
theorem bt_take {l : List Nat} {i n : Nat} (h : i < n) : bt (l.take n) i = bt l i := by
  simp [bt, h]
theorem bt_drop (l : List Nat) (i n : Nat) : bt (l.drop n) i = bt l (n + i) := by
  simp [bt, List.getElem?_drop]
theorem bt_cons (a : Nat) (l : List Nat) (i : Nat) : bt (a :: l) (i + 1) = bt l i := rfl

/-- m bytes from n on. -/
def seg (l : List Nat) (n : Nat) : Nat → List Nat
  | 0 => []
  | m + 1 => seg l n m ++ [bt l (n + m)]
theorem seg_len (l : List Nat) (n m : Nat) : (seg l n m).length = m := by
  induction m with
  | zero => rfl
  | succ m ih => simp [seg, ih]
theorem take_snoc {l : List Nat} {n : Nat} (h : n < l.length) : l.take (n + 1) = l.take n ++ [bt l n] := by
  rw [List.take_succ_eq_append_getElem h, bt_lt h]
theorem take_seg {l : List Nat} {n : Nat} : ∀ m, n + m ≤ l.length → l.take (n + m) = l.take n ++ seg l n m
  | 0, _ => by simp [seg]
  | m + 1, h => by
    rw [← Nat.add_assoc, take_snoc (by omega), take_seg m (by omega), seg, List.append_assoc]
theorem seg_bt {l : List Nat} {n m i : Nat} (h : i < m) : bt (seg l n m) i = bt l (n + i) := by
  induction m with
  | zero => omega
  | succ m ih =>
    rw [seg]
    by_cases e : i < m
    · rw [bt_left (by rw [seg_len]; exact e), ih e]
    · have : i = (seg l n m).length + 0 := by rw [seg_len]; omega
      rw [this, bt_right, seg_len]
      rfl
theorem ext_bt {a b : List Nat} (h : a.length = b.length) (hb : ∀ i, i < a.length → bt a i = bt b i) : a = b := by
  apply List.ext_getElem h
  intro i h1 h2
  rw [← bt_lt h1, ← bt_lt h2]
  exact hb i h1

/-! Bits. -/
def bit (x i : Nat) : Bool := x / 2 ^ i % 2 == 1
/-- The bits of byte j, up to n. -/
def b8 (f : Nat → Bool) (j : Nat) : Nat → Nat
  | 0 => 0
  | n + 1 => b8 f j n + if f (8 * j + n) then 2 ^ n else 0
theorem b8_lt (f : Nat → Bool) (j : Nat) : ∀ n, b8 f j n < 2 ^ n
  | 0 => by simp [b8]
  | n + 1 => by
    have := b8_lt f j n
    simp only [b8, Nat.pow_succ]
    split <;> omega
theorem b8_congr {f g : Nat → Bool} {j : Nat} : ∀ n, (∀ i, i < n → f (8 * j + i) = g (8 * j + i)) → b8 f j n = b8 g j n
  | 0, _ => rfl
  | n + 1, h => by
    simp only [b8]
    rw [b8_congr n (fun i hi => h i (by omega)), h n (by omega)]
def byteOf (f : Nat → Bool) (j : Nat) : Nat := b8 f j 8
theorem byteOf_lt (f : Nat → Bool) (j : Nat) : byteOf f j < 256 := b8_lt f j 8
def sum8 (b0 b1 b2 b3 b4 b5 b6 b7 : Bool) : Nat := (if b0 then 1 else 0) + (if b1 then 2 else 0) + (if b2 then 4 else 0) + (if b3 then 8 else 0) + (if b4 then 16 else 0) + (if b5 then 32 else 0) + (if b6 then 64 else 0) + (if b7 then 128 else 0)
theorem byteOf_sum (f : Nat → Bool) (j : Nat) : byteOf f j = sum8 (f (8 * j)) (f (8 * j + 1)) (f (8 * j + 2)) (f (8 * j + 3)) (f (8 * j + 4)) (f (8 * j + 5)) (f (8 * j + 6)) (f (8 * j + 7)) := by
  simp [byteOf, b8, sum8]
set_option maxRecDepth 100000 in
theorem sum8_bits : ∀ b0 b1 b2 b3 b4 b5 b6 b7 : Bool, bit (sum8 b0 b1 b2 b3 b4 b5 b6 b7) 0 = b0 ∧ bit (sum8 b0 b1 b2 b3 b4 b5 b6 b7) 1 = b1 ∧ bit (sum8 b0 b1 b2 b3 b4 b5 b6 b7) 2 = b2 ∧ bit (sum8 b0 b1 b2 b3 b4 b5 b6 b7) 3 = b3 ∧ bit (sum8 b0 b1 b2 b3 b4 b5 b6 b7) 4 = b4 ∧ bit (sum8 b0 b1 b2 b3 b4 b5 b6 b7) 5 = b5 ∧ bit (sum8 b0 b1 b2 b3 b4 b5 b6 b7) 6 = b6 ∧ bit (sum8 b0 b1 b2 b3 b4 b5 b6 b7) 7 = b7 := by decide +kernel
theorem bit_byteOf (f : Nat → Bool) (j i : Nat) (hi : i < 8) : bit (byteOf f j) i = f (8 * j + i) := by
  rw [byteOf_sum]
  obtain ⟨h0, h1, h2, h3, h4, h5, h6, h7⟩ := sum8_bits (f (8 * j)) (f (8 * j + 1)) (f (8 * j + 2)) (f (8 * j + 3)) (f (8 * j + 4)) (f (8 * j + 5)) (f (8 * j + 6)) (f (8 * j + 7))
  have e : i = 0 ∨ i = 1 ∨ i = 2 ∨ i = 3 ∨ i = 4 ∨ i = 5 ∨ i = 6 ∨ i = 7 := by omega
  rcases e with e | e | e | e | e | e | e | e <;> subst e
  · exact h0
  · exact h1
  · exact h2
  · exact h3
  · exact h4
  · exact h5
  · exact h6
  · exact h7
set_option maxRecDepth 100000 in
theorem sum8_of_bits : ∀ x : Fin 256, sum8 (bit x.val 0) (bit x.val 1) (bit x.val 2) (bit x.val 3) (bit x.val 4) (bit x.val 5) (bit x.val 6) (bit x.val 7) = x.val := by decide +kernel
theorem byteOf_bits {f : Nat → Bool} {j x : Nat} (hx : x < 256) (h : ∀ i, i < 8 → f (8 * j + i) = bit x i) : byteOf f j = x := by
  rw [byteOf_sum]
  have h0 := h 0 (by omega)
  simp only [Nat.add_zero] at h0
  rw [h0, h 1 (by omega), h 2 (by omega), h 3 (by omega), h 4 (by omega), h 5 (by omega), h 6 (by omega), h 7 (by omega)]
  exact sum8_of_bits ⟨x, hx⟩

/-! What is written. -/
def Pic.fil (P : Pic) (p : Nat) : Bool := (List.range 8).any fun k => P.wd p k != 0
def rootB (r : Int) : Nat := if r = -1 then 255 else r.toNat
def pageB (P : Pic) (p : Nat) : Nat → List Nat
  | 0 => []
  | k + 1 => pageB P p k ++ [(P.wd p k).toNat % 256, (P.wd p k).toNat / 256]
def wordsTo (P : Pic) : Nat → List Nat
  | 0 => []
  | p + 1 => wordsTo P p ++ if P.fil p then pageB P p 8 else []
def bitsTo (f : Nat → Bool) : Nat → List Nat
  | 0 => []
  | n + 1 => bitsTo f n ++ [byteOf f n]
def headL (P : Pic) : List Nat := [67, 86, 3, rootB P.root] ++ bitsTo P.pr 8 ++ bitsTo P.wr 8 ++ bitsTo P.fil 8
def aheadL (P : Pic) : List Nat := headL P ++ wordsTo P 64
/-- The two sums of the check. -/
def adlS (x : Nat × Nat) (b : Nat) : Nat × Nat := ((x.1 + b) % 65521, (x.2 + (x.1 + b) % 65521) % 65521)
def adl (l : List Nat) : Nat × Nat := l.foldl adlS (1, 0)
def checkL (l : List Nat) : List Nat := [(adl l).1 % 256, (adl l).1 / 256, (adl l).2 % 256, (adl l).2 / 256]
def encL (P : Pic) : List Nat := aheadL P ++ checkL (aheadL P)

theorem adl_snoc (l : List Nat) (b : Nat) : adl (l ++ [b]) = adlS (adl l) b := by simp [adl]
theorem adlS_lt (x : Nat × Nat) (b : Nat) : (adlS x b).1 < 65521 ∧ (adlS x b).2 < 65521 := ⟨Nat.mod_lt _ (by omega), Nat.mod_lt _ (by omega)⟩
theorem foldl_lt : ∀ (l : List Nat) (x : Nat × Nat), x.1 < 65521 ∧ x.2 < 65521 → (l.foldl adlS x).1 < 65521 ∧ (l.foldl adlS x).2 < 65521
  | [], _, h => h
  | b :: l, x, _ => foldl_lt l _ (adlS_lt x b)
theorem adl_lt (l : List Nat) : (adl l).1 < 65521 ∧ (adl l).2 < 65521 := foldl_lt l _ ⟨by simp, by simp⟩
theorem checkL_lt (l : List Nat) : ∀ x ∈ checkL l, x < 256 := by
  have := adl_lt l
  intro x hx
  simp only [checkL, List.mem_cons, List.not_mem_nil, or_false] at hx
  rcases hx with rfl | rfl | rfl | rfl <;> omega

theorem pageB_len (P : Pic) (p k : Nat) : (pageB P p k).length = 2 * k := by
  induction k with
  | zero => rfl
  | succ k ih => simp [pageB, ih]; omega
theorem pageB_bt (P : Pic) (p : Nat) : ∀ n k, k < n → bt (pageB P p n) (2 * k) = (P.wd p k).toNat % 256 ∧ bt (pageB P p n) (2 * k + 1) = (P.wd p k).toNat / 256
  | n + 1, k, h => by
    by_cases e : k < n
    · obtain ⟨h1, h2⟩ := pageB_bt P p n k e
      rw [pageB, bt_left (by rw [pageB_len]; omega), bt_left (by rw [pageB_len]; omega)]
      exact ⟨h1, h2⟩
    · have hk : k = n := by omega
      subst hk
      have e1 : 2 * k = (pageB P p k).length + 0 := by rw [pageB_len]; omega
      have e2 : 2 * k + 1 = (pageB P p k).length + 1 := by rw [pageB_len]
      rw [pageB]
      constructor
      · rw [e1, bt_right]; rfl
      · rw [e2, bt_right]; rfl
/-- How many, below p, have a word that is not 0. -/
def cntF (f : Nat → Bool) : Nat → Nat
  | 0 => 0
  | p + 1 => cntF f p + if f p then 1 else 0
theorem cntF_le (f : Nat → Bool) (p : Nat) : cntF f p ≤ p := by
  induction p with
  | zero => simp [cntF]
  | succ p ih => simp only [cntF]; split <;> omega
theorem cntF_mono {f : Nat → Bool} {p q : Nat} (h : p ≤ q) : cntF f p ≤ cntF f q := by
  induction q with
  | zero => rw [show p = 0 by omega]; exact Nat.le_refl _
  | succ q ih =>
    by_cases e : p = q + 1
    · rw [e]; exact Nat.le_refl _
    · have := ih (by omega)
      simp only [cntF]
      omega
theorem cntF_congr {f g : Nat → Bool} : ∀ p, (∀ i, i < p → f i = g i) → cntF f p = cntF g p
  | 0, _ => rfl
  | p + 1, h => by
    simp only [cntF]
    rw [cntF_congr p (fun i hi => h i (by omega)), h p (by omega)]
theorem wordsTo_len (P : Pic) (p : Nat) : (wordsTo P p).length = 16 * cntF P.fil p := by
  induction p with
  | zero => rfl
  | succ p ih =>
    simp only [wordsTo, cntF, List.length_append, ih]
    split
    · rw [pageB_len]; omega
    · simp
theorem wordsTo_bt (P : Pic) : ∀ n p i, p < n → P.fil p = true → i < 16 → bt (wordsTo P n) (16 * cntF P.fil p + i) = bt (pageB P p 8) i
  | n + 1, p, i, hp, hf, hi => by
    have hc : cntF P.fil p + 1 ≤ cntF P.fil (p + 1) := by simp [cntF, hf]
    rw [wordsTo]
    by_cases e : p < n
    · have := cntF_mono (f := P.fil) (show p + 1 ≤ n by omega)
      rw [bt_left (by rw [wordsTo_len]; omega)]
      exact wordsTo_bt P n p i e hf hi
    · have hk : p = n := by omega
      subst hk
      rw [← wordsTo_len, bt_right, if_pos hf]
theorem bitsTo_len (f : Nat → Bool) (n : Nat) : (bitsTo f n).length = n := by
  induction n with
  | zero => rfl
  | succ n ih => simp [bitsTo, ih]
theorem bitsTo_bt (f : Nat → Bool) : ∀ n j, j < n → bt (bitsTo f n) j = byteOf f j
  | n + 1, j, h => by
    rw [bitsTo]
    by_cases e : j < n
    · rw [bt_left (by rw [bitsTo_len]; exact e)]
      exact bitsTo_bt f n j e
    · have e1 : j = (bitsTo f n).length + 0 := by rw [bitsTo_len]; omega
      have e2 : j = n := by omega
      rw [e1, bt_right, ← e1, e2]
      rfl
theorem headL_len (P : Pic) : (headL P).length = 28 := by simp [headL, bitsTo_len]
theorem aheadL_len (P : Pic) : (aheadL P).length = 28 + 16 * cntF P.fil 64 := by simp [aheadL, headL_len, wordsTo_len]
theorem encL_len (P : Pic) : (encL P).length = 32 + 16 * cntF P.fil 64 := by simp [encL, aheadL_len, checkL]; omega

/-! What is read. -/
def wordAt (hi : Bool) (l : List Nat) (at' k : Nat) : Int := if hi then ((256 * bt l (at' + 2 * k) + bt l (at' + 2 * k + 1) : Nat) : Int) else ((bt l (at' + 2 * k) + 256 * bt l (at' + 2 * k + 1) : Nat) : Int)
def rootOk (l : List Nat) : Prop := bt l 3 = 255 ∨ bt l 3 < 64
def rootOf (l : List Nat) : Int := if bt l 3 = 255 then -1 else bt l 3

/-! Form 3. -/
def prB (l : List Nat) (p : Nat) : Bool := bit (bt l (4 + p / 8)) (p % 8)
def wrB (l : List Nat) (p : Nat) : Bool := bit (bt l (12 + p / 8)) (p % 8)
def flB (l : List Nat) (p : Nat) : Bool := bit (bt l (20 + p / 8)) (p % 8)
def mapPic (l : List Nat) : Pic := ⟨rootOf l, prB l, wrB l, fun p k => if flB l p then wordAt false l (28 + 16 * cntF (flB l) p) k else 0⟩
def end3 (l : List Nat) : Nat := 28 + 16 * cntF (flB l) 64
structure Form3 (l : List Nat) : Prop where
  c : bt l 0 = 67
  v : bt l 1 = 86
  f : bt l 2 = 3
  root : rootOk l
  wr : ∀ p, p < 64 → wrB l p = true → prB l p = true
  fl : ∀ p, p < 64 → flB l p = true → prB l p = true
  nz : ∀ p, p < 64 → flB l p = true → (mapPic l).fil p = true
  le : end3 l ≤ l.length
  sl : l.drop (end3 l) = checkL (l.take (end3 l))

/-- Alike where it counts. -/
structure Pic.Same (P Q : Pic) : Prop where
  root : P.root = Q.root
  pr : ∀ p, p < 64 → P.pr p = Q.pr p
  wr : ∀ p, p < 64 → P.wr p = Q.wr p
  wd : ∀ p k, p < 64 → k < 8 → P.wd p k = Q.wd p k
theorem Pic.Same.fil {P Q : Pic} (h : P.Same Q) {p : Nat} (hp : p < 64) : P.fil p = Q.fil p := by
  simp only [Pic.fil]
  rw [Bool.eq_iff_iff, List.any_eq_true, List.any_eq_true]
  constructor
  · rintro ⟨k, h1, h2⟩; exact ⟨k, h1, by rw [← h.wd p k hp (List.mem_range.1 h1)]; exact h2⟩
  · rintro ⟨k, h1, h2⟩; exact ⟨k, h1, by rw [h.wd p k hp (List.mem_range.1 h1)]; exact h2⟩
theorem byteOf_congr {f g : Nat → Bool} {j : Nat} (hj : j < 8) (h : ∀ p, p < 64 → f p = g p) : byteOf f j = byteOf g j := b8_congr 8 (fun i hi => h _ (by omega))
theorem bitsTo_congr {f g : Nat → Bool} (h : ∀ p, p < 64 → f p = g p) : ∀ n, n ≤ 8 → bitsTo f n = bitsTo g n
  | 0, _ => rfl
  | n + 1, hn => by rw [bitsTo, bitsTo, bitsTo_congr h n (by omega), byteOf_congr (by omega) h]
theorem pageB_congr {P Q : Pic} (h : P.Same Q) {p : Nat} (hp : p < 64) : ∀ k, k ≤ 8 → pageB P p k = pageB Q p k
  | 0, _ => rfl
  | k + 1, hk => by rw [pageB, pageB, pageB_congr h hp k (by omega), h.wd p k hp (by omega)]
theorem wordsTo_congr {P Q : Pic} (h : P.Same Q) : ∀ n, n ≤ 64 → wordsTo P n = wordsTo Q n
  | 0, _ => rfl
  | n + 1, hn => by rw [wordsTo, wordsTo, wordsTo_congr h n (by omega), h.fil (by omega), pageB_congr h (by omega) 8 (by omega)]
theorem aheadL_congr {P Q : Pic} (h : P.Same Q) : aheadL P = aheadL Q := by
  rw [aheadL, aheadL, wordsTo_congr h 64 (by omega), headL, headL, bitsTo_congr h.pr 8 (by omega), bitsTo_congr h.wr 8 (by omega), bitsTo_congr (fun p hp => h.fil hp) 8 (by omega), h.root]
theorem encL_congr {P Q : Pic} (h : P.Same Q) : encL P = encL Q := by rw [encL, encL, aheadL_congr h]

theorem wordAt_lt {hi : Bool} {l : List Nat} {a k : Nat} (h : ∀ x ∈ l, x < 256) : 0 ≤ wordAt hi l a k ∧ wordAt hi l a k ≤ 65535 := by
  have hb : ∀ i, bt l i < 256 := fun i => by
    by_cases e : i < l.length
    · rw [bt_lt e]; exact h _ (List.getElem_mem e)
    · rw [bt_ge (by omega)]; omega
  have h1 := hb (a + 2 * k)
  have h2 := hb (a + 2 * k + 1)
  simp only [wordAt]
  split <;> omega
end Go.Proofs.YtfcepnhknmbaaaaGreat
