/- Form 3: what is written is what is read, and the other way. -/
import Derived.Test.YtfcepnhknmbaaaaBytes
namespace Go.Proofs.Ytfcepnhknmbaaaa

theorem bytes_bt {l : List Nat} (h : ∀ x ∈ l, x < 256) (i : Nat) : bt l i < 256 := by
  by_cases e : i < l.length
  · rw [bt_lt e]; exact h _ (List.getElem_mem e)
  · rw [bt_ge (by omega)]; omega
theorem fil_wd {P : Pic} {p : Nat} (h : P.fil p = false) {k : Nat} (hk : k < 8) : P.wd p k = 0 := by
  simp only [Pic.fil, List.any_eq_false, List.mem_range] at h
  simpa using h k hk

/-- What is not there is not writable, and has no words. -/
structure Pic.Tidy (P : Pic) : Prop where
  wr : ∀ p, p < 64 → P.wr p = true → P.pr p = true
  fl : ∀ p, p < 64 → P.fil p = true → P.pr p = true

section
variable {P : Pic}
theorem enc_head {i : Nat} (h : i < 28) : bt (encL P) i = bt (headL P) i := by
  rw [encL, aheadL, List.append_assoc, bt_left (by rw [headL_len]; exact h)]
theorem head_root : bt (headL P) 0 = 67 ∧ bt (headL P) 1 = 86 ∧ bt (headL P) 2 = 3 ∧ bt (headL P) 3 = rootB P.root := ⟨rfl, rfl, rfl, rfl⟩
theorem head_bits {j : Nat} (hj : j < 8) : bt (headL P) (4 + j) = byteOf P.pr j ∧ bt (headL P) (12 + j) = byteOf P.wr j ∧ bt (headL P) (20 + j) = byteOf P.fil j := by
  have l1 : ([67, 86, 3, rootB P.root] ++ bitsTo P.pr 8).length = 12 := by simp [bitsTo_len]
  have l2 : ([67, 86, 3, rootB P.root] ++ bitsTo P.pr 8 ++ bitsTo P.wr 8).length = 20 := by simp [bitsTo_len]
  refine ⟨?_, ?_, ?_⟩
  · rw [headL, bt_left (by rw [l2]; omega), bt_left (by rw [l1]; omega)]
    have : (4 + j) = [67, 86, 3, rootB P.root].length + j := rfl
    rw [this, bt_right, bitsTo_bt _ 8 j hj]
  · rw [headL, bt_left (by rw [l2]; omega)]
    have := bt_right (a := [67, 86, 3, rootB P.root] ++ bitsTo P.pr 8) (b := bitsTo P.wr 8) j
    rw [l1] at this
    rw [this, bitsTo_bt _ 8 j hj]
  · rw [headL]
    have := bt_right (a := [67, 86, 3, rootB P.root] ++ bitsTo P.pr 8 ++ bitsTo P.wr 8) (b := bitsTo P.fil 8) j
    rw [l2] at this
    rw [this, bitsTo_bt _ 8 j hj]
theorem enc_pr {p : Nat} (hp : p < 64) : prB (encL P) p = P.pr p := by
  rw [prB, enc_head (by omega), (head_bits (by omega)).1, bit_byteOf _ _ _ (by omega), show 8 * (p / 8) + p % 8 = p by omega]
theorem enc_wr {p : Nat} (hp : p < 64) : wrB (encL P) p = P.wr p := by
  rw [wrB, enc_head (by omega), (head_bits (by omega)).2.1, bit_byteOf _ _ _ (by omega), show 8 * (p / 8) + p % 8 = p by omega]
theorem enc_fl {p : Nat} (hp : p < 64) : flB (encL P) p = P.fil p := by
  rw [flB, enc_head (by omega), (head_bits (by omega)).2.2, bit_byteOf _ _ _ (by omega), show 8 * (p / 8) + p % 8 = p by omega]
theorem enc_cnt {p : Nat} (hp : p ≤ 64) : cntF (flB (encL P)) p = cntF P.fil p := cntF_congr p (fun i hi => enc_fl (by omega))
theorem enc_word (hG : P.Good) {p k : Nat} (hp : p < 64) (hk : k < 8) (hf : P.fil p = true) : wordAt false (encL P) (28 + 16 * cntF P.fil p) k = P.wd p k := by
  have hc : cntF P.fil p + 1 ≤ cntF P.fil (p + 1) := by simp [cntF, hf]
  have hc2 := cntF_mono (f := P.fil) (show p + 1 ≤ 64 by omega)
  have key : ∀ i, i < 16 → bt (encL P) (28 + 16 * cntF P.fil p + i) = bt (pageB P p 8) i := fun i hi => by
    rw [encL, bt_left (by rw [aheadL_len]; omega), aheadL]
    have := bt_right (a := headL P) (b := wordsTo P 64) (16 * cntF P.fil p + i)
    rw [headL_len] at this
    rw [Nat.add_assoc, this]
    exact wordsTo_bt P 64 p i hp hf hi
  have h1 := key (2 * k) (by omega)
  have h2 := key (2 * k + 1) (by omega)
  rw [(pageB_bt P p 8 k hk).1] at h1
  rw [(pageB_bt P p 8 k hk).2, ← Nat.add_assoc] at h2
  have hw := hG.w p k hp hk
  simp only [wordAt, Bool.false_eq_true, if_false, h1, h2]
  omega

theorem enc_same (hG : P.Good) : (mapPic (encL P)).Same P := by
  refine ⟨?_, fun p hp => enc_pr hp, fun p hp => enc_wr hp, fun p k hp hk => ?_⟩
  · show rootOf (encL P) = P.root
    rw [rootOf, enc_head (by omega), head_root.2.2.2, rootB]
    have h0 := hG.r0
    have h1 := hG.r1
    by_cases e : P.root = -1
    · rw [if_pos e, if_pos rfl, e]
    · rw [if_neg e, if_neg (by omega)]
      omega
  · show (if flB (encL P) p then wordAt false (encL P) (28 + 16 * cntF (flB (encL P)) p) k else 0) = P.wd p k
    rw [enc_fl hp, enc_cnt (by omega)]
    cases hf : P.fil p with
    | true => rw [if_pos rfl]; exact enc_word hG hp hk hf
    | false => rw [if_neg (by simp), fil_wd hf hk]

/-- What was written is of form 3. -/
theorem enc_form (hG : P.Good) (hT : P.Tidy) : Form3 (encL P) := by
  have hS := enc_same hG
  have he : end3 (encL P) = (aheadL P).length := by rw [end3, enc_cnt (by omega), aheadL_len]
  refine ⟨by rw [enc_head (by omega)]; rfl, by rw [enc_head (by omega)]; rfl, by rw [enc_head (by omega)]; rfl, ?_, fun p hp h => ?_, fun p hp h => ?_, fun p hp h => ?_, ?_, ?_⟩
  · rw [rootOk, enc_head (by omega), head_root.2.2.2, rootB]
    have h0 := hG.r0
    have h1 := hG.r1
    split
    · exact Or.inl rfl
    · exact Or.inr (by omega)
  · rw [enc_wr hp] at h; rw [enc_pr hp]; exact hT.wr p hp h
  · rw [enc_fl hp] at h; rw [enc_pr hp]; exact hT.fl p hp h
  · rw [enc_fl hp] at h; rw [hS.fil hp]; exact h
  · rw [he, encL, List.length_append]; omega
  · rw [he, encL, List.drop_left, List.take_left]
end

section
variable {l : List Nat}
theorem map_fil (h : Form3 l) {p : Nat} (hp : p < 64) : (mapPic l).fil p = flB l p := by
  cases hf : flB l p with
  | true => exact h.nz p hp hf
  | false =>
    simp only [Pic.fil, List.any_eq_false, List.mem_range]
    intro k _
    simp [mapPic, hf]
theorem map_good (hb : ∀ x ∈ l, x < 256) (h : rootOk l) : (mapPic l).Good := by
  refine ⟨?_, ?_, fun p k _ _ => ?_⟩
  · show -1 ≤ rootOf l
    rw [rootOf]; split <;> omega
  · show rootOf l < 64
    rw [rootOf]
    rcases h with h | h
    · rw [if_pos h]; omega
    · split <;> omega
  · show 0 ≤ (if flB l p then wordAt false l (28 + 16 * cntF (flB l) p) k else 0) ∧ _
    show _ ∧ (if flB l p then wordAt false l (28 + 16 * cntF (flB l) p) k else 0) ≤ 65535
    split
    · exact wordAt_lt hb
    · omega
theorem map_tidy (h : Form3 l) : (mapPic l).Tidy := ⟨h.wr, fun p hp q => h.fl p hp (by rw [← map_fil h hp]; exact q)⟩
theorem page_seg (hb : ∀ x ∈ l, x < 256) (h : Form3 l) {p : Nat} (_hp : p < 64) (hf : flB l p = true) : ∀ k, k ≤ 8 → pageB (mapPic l) p k = seg l (28 + 16 * cntF (flB l) p) (2 * k)
  | 0, _ => rfl
  | k + 1, hk => by
    have h1 := bytes_bt hb (28 + 16 * cntF (flB l) p + 2 * k)
    have h2 := bytes_bt hb (28 + 16 * cntF (flB l) p + 2 * k + 1)
    have e : (mapPic l).wd p k = ((bt l (28 + 16 * cntF (flB l) p + 2 * k) + 256 * bt l (28 + 16 * cntF (flB l) p + 2 * k + 1) : Nat) : Int) := by
      show (if flB l p then wordAt false l (28 + 16 * cntF (flB l) p) k else 0) = _
      rw [if_pos hf]; rfl
    rw [pageB, page_seg hb h _hp hf k (by omega), e, Int.toNat_natCast]
    rw [show 2 * (k + 1) = 2 * k + 1 + 1 by omega, seg, seg, List.append_assoc, List.singleton_append, ← Nat.add_assoc]
    congr 3
    · omega
    · omega
theorem words_seg (hb : ∀ x ∈ l, x < 256) (h : Form3 l) : ∀ n, n ≤ 64 → wordsTo (mapPic l) n = seg l 28 (16 * cntF (flB l) n)
  | 0, _ => rfl
  | n + 1, hn => by
    rw [wordsTo, words_seg hb h n (by omega), map_fil h (by omega)]
    cases hf : flB l n with
    | false => simp [cntF, hf]
    | true =>
      have hc : 16 * cntF (flB l) (n + 1) = 16 * cntF (flB l) n + 16 := by simp [cntF, hf]; omega
      have hle := h.le
      have hm := cntF_mono (f := flB l) (show n + 1 ≤ 64 by omega)
      simp only [end3] at hle
      rw [if_pos rfl, page_seg hb h (by omega) hf 8 (by omega), hc]
      have e1 := take_seg (l := l) (n := 28) (16 * cntF (flB l) n) (by omega)
      have e2 := take_seg (l := l) (n := 28) (16 * cntF (flB l) n + 16) (by omega)
      have e3 := take_seg (l := l) (n := 28 + 16 * cntF (flB l) n) 16 (by omega)
      rw [← Nat.add_assoc, e3, e1, List.append_assoc] at e2
      exact List.append_cancel_left e2
theorem bits_seg (hb : ∀ x ∈ l, x < 256) {f : Nat → Bool} {o : Nat} (hf : ∀ p, p < 64 → f p = bit (bt l (o + p / 8)) (p % 8)) : ∀ n, n ≤ 8 → bitsTo f n = seg l o n
  | 0, _ => rfl
  | n + 1, hn => by
    rw [bitsTo, seg, bits_seg hb hf n (by omega), byteOf_bits (bytes_bt hb (o + n)) (fun i hi => ?_)]
    rw [hf _ (by omega), show (8 * n + i) / 8 = n by omega, show (8 * n + i) % 8 = i by omega]
/-- What is of form 3 is what is written of it. -/
theorem form_enc (hb : ∀ x ∈ l, x < 256) (h : Form3 l) : encL (mapPic l) = l := by
  have hle := h.le
  have ha : aheadL (mapPic l) = l.take (end3 l) := by
    have hh : headL (mapPic l) = l.take 28 := by
      have h28 : 28 ≤ l.length := by simp only [end3] at hle; omega
      have t0 : l.take 4 = seg l 0 4 := by
        have := take_seg (l := l) (n := 0) 4 (by omega)
        simpa using this
      have t1 := take_seg (l := l) (n := 4) 8 (by omega)
      have t2 := take_seg (l := l) (n := 12) 8 (by omega)
      have t3 := take_seg (l := l) (n := 20) 8 (by omega)
      have hr : rootB (mapPic l).root = bt l 3 := by
        show rootB (rootOf l) = bt l 3
        rw [rootOf, rootB]
        rcases h.root with e | e
        · rw [if_pos e, if_pos rfl, e]
        · rw [if_neg (show ¬ bt l 3 = 255 by omega), if_neg (by omega)]
          omega
      rw [show (28 : Nat) = 20 + 8 from rfl, t3, show (20 : Nat) = 12 + 8 from rfl, t2, show (12 : Nat) = 4 + 8 from rfl, t1, t0]
      rw [headL, hr, bits_seg hb (f := (mapPic l).pr) (o := 4) (fun p _ => rfl) 8 (by omega), bits_seg hb (f := (mapPic l).wr) (o := 12) (fun p _ => rfl) 8 (by omega), bits_seg hb (f := (mapPic l).fil) (o := 20) (fun p hp => map_fil h hp) 8 (by omega)]
      have e4 : seg l 0 4 = [bt l 0, bt l 1, bt l 2, bt l 3] := rfl
      rw [e4, h.c, h.v, h.f]
    rw [aheadL, hh, words_seg hb h 64 (by omega), end3, take_seg (l := l) (n := 28) _ (by simpa [end3] using hle)]
  rw [encL, ha, ← h.sl, List.take_append_drop]
end
end Go.Proofs.Ytfcepnhknmbaaaa

/- Forms 1 and 2, in plain mathematics: pages one by one. -/
namespace Go.Proofs.Ytfcepnhknmbaaaa

/-- Page p is had, with its words. -/
def Pic.put (P : Pic) (p : Nat) (b : Bool) (f : Nat → Int) : Pic := ⟨P.root, fun q => if q = p then true else P.pr q, fun q => if q = p then b else P.wr q, fun q k => if q = p then f k else P.wd q k⟩

/-! 'fl': there is a byte that tells whether the page is writable (form 2). -/
def lE (fl : Bool) : Nat := if fl then 18 else 17
def lAt (fl : Bool) (h i : Nat) : Nat := h + 1 + i * lE fl
def lN (l : List Nat) (fl : Bool) (h i : Nat) : Nat := bt l (lAt fl h i)
def lWr (l : List Nat) (fl : Bool) (h i : Nat) : Bool := if fl then bt l (lAt fl h i + 1) == 1 else true
def lW (l : List Nat) (fl : Bool) (h i k : Nat) : Int := wordAt (!fl) l (lAt fl h i + (if fl then 2 else 1)) k
def lPic (r : Int) (l : List Nat) (fl : Bool) (h : Nat) : Nat → Pic
  | 0 => zeroPic r
  | i + 1 => (lPic r l fl h i).put (lN l fl h i) (lWr l fl h i) (lW l fl h i)
def lLeast (l : List Nat) (fl : Bool) (h : Nat) : Nat → Nat
  | 0 => 0
  | i + 1 => lN l fl h i + 1
def lOk (l : List Nat) (fl : Bool) (h : Nat) : Nat → Prop
  | 0 => True
  | i + 1 => lOk l fl h i ∧ lLeast l fl h i ≤ lN l fl h i ∧ lN l fl h i < 64 ∧ (fl = true → bt l (lAt fl h i + 1) ≤ 1)
theorem lOk_le {l : List Nat} {fl : Bool} {h : Nat} : ∀ {i j : Nat}, i ≤ j → lOk l fl h j → lOk l fl h i
  | i, 0, hij, q => by rw [show i = 0 by omega]; trivial
  | i, j + 1, hij, q => by
    by_cases e : i = j + 1
    · rw [e]; exact q
    · exact lOk_le (by omega) q.1
theorem lAt_le {fl : Bool} {h i j : Nat} (hij : i ≤ j) : lAt fl h i ≤ lAt fl h j := by
  have := Nat.mul_le_mul_right (lE fl) hij
  simp only [lAt]
  omega
theorem lAt_succ (fl : Bool) (h i : Nat) : lAt fl h (i + 1) = lAt fl h i + lE fl := by
  simp only [lAt, Nat.succ_mul]
  omega
theorem lE_false : lE false = 17 := rfl
theorem lE_true : lE true = 18 := rfl
/-- Numbers rise: there are not too many. -/
theorem lOk_least {l : List Nat} {fl : Bool} {h : Nat} : ∀ {i : Nat}, lOk l fl h i → i ≤ lLeast l fl h i ∧ lLeast l fl h i ≤ 64
  | 0, _ => ⟨by simp [lLeast], by simp [lLeast]⟩
  | i + 1, q => by
    have := (lOk_least q.1).1
    have q1 := q.2.1
    have q2 := q.2.2.1
    simp only [lLeast]
    omega
theorem lPic_root {r : Int} {l : List Nat} {fl : Bool} {h : Nat} : ∀ i, (lPic r l fl h i).root = r
  | 0 => rfl
  | i + 1 => lPic_root i
theorem lPic_good {r : Int} {l : List Nat} {fl : Bool} {h : Nat} (hb : ∀ x ∈ l, x < 256) (h0 : -1 ≤ r) (h1 : r < 64) (i : Nat) : (lPic r l fl h i).Good := by
  refine ⟨by rw [lPic_root]; exact h0, by rw [lPic_root]; exact h1, fun p k _ _ => ?_⟩
  induction i with
  | zero => show 0 ≤ (0 : Int) ∧ (0 : Int) ≤ 65535; omega
  | succ i ih =>
    show 0 ≤ (if p = lN l fl h i then lW l fl h i k else (lPic r l fl h i).wd p k) ∧ (if p = lN l fl h i then lW l fl h i k else (lPic r l fl h i).wd p k) ≤ 65535
    split
    · exact wordAt_lt hb
    · exact ih
theorem lPic_tidy {r : Int} {l : List Nat} {fl : Bool} {h : Nat} (i : Nat) : (∀ p, (lPic r l fl h i).pr p = false → (lPic r l fl h i).wr p = false ∧ ∀ k, (lPic r l fl h i).wd p k = 0) := by
  induction i with
  | zero => exact fun _ _ => ⟨rfl, fun _ => rfl⟩
  | succ i ih =>
    intro p
    show (if p = lN l fl h i then true else (lPic r l fl h i).pr p) = false → (if p = lN l fl h i then lWr l fl h i else (lPic r l fl h i).wr p) = false ∧ ∀ k, (if p = lN l fl h i then lW l fl h i k else (lPic r l fl h i).wd p k) = 0
    by_cases e : p = lN l fl h i
    · simp [e]
    · simp only [if_neg e]
      exact ih p

/-! The bytes of a guest. -/
def seal1 (l : List Nat) : List Nat := [l.sum % 256]
def seal2 (l : List Nat) : List Nat := [l.sum % 256, l.sum / 256 % 256]
structure Form1 (l : List Nat) : Prop where
  c : bt l 0 = 67
  v : bt l 1 = 86
  f : bt l 2 = 1
  ok : lOk l false 3 (bt l 3)
  le : lAt false 3 (bt l 3) ≤ l.length
  sl : l.drop (lAt false 3 (bt l 3)) = seal1 (l.take (lAt false 3 (bt l 3)))
structure Form2 (l : List Nat) : Prop where
  c : bt l 0 = 67
  v : bt l 1 = 86
  f : bt l 2 = 2
  root : rootOk l
  ok : lOk l true 4 (bt l 4)
  le : lAt true 4 (bt l 4) ≤ l.length
  sl : l.drop (lAt true 4 (bt l 4)) = seal2 (l.take (lAt true 4 (bt l 4)))
def Valid (l : List Nat) : Prop := Form1 l ∨ Form2 l ∨ Form3 l
/-- The guest of bytes. -/
def picOf (l : List Nat) : Pic := if bt l 2 = 1 then lPic (-1) l false 3 (bt l 3) else if bt l 2 = 2 then lPic (rootOf l) l true 4 (bt l 4) else mapPic l
theorem rootOf_bd {l : List Nat} (h : rootOk l) : -1 ≤ rootOf l ∧ rootOf l < 64 := by
  rw [rootOf]
  rcases h with h | h
  · rw [if_pos h]; omega
  · split <;> omega
theorem tidy_of {P : Pic} (h : ∀ p, P.pr p = false → P.wr p = false ∧ ∀ k, P.wd p k = 0) : P.Tidy := by
  refine ⟨fun p _ q => ?_, fun p _ q => ?_⟩
  · cases e : P.pr p with
    | true => rfl
    | false => rw [(h p e).1] at q; cases q
  · cases e : P.pr p with
    | true => rfl
    | false =>
      have : P.fil p = false := by
        simp only [Pic.fil, List.any_eq_false, List.mem_range]
        intro k _
        simp [(h p e).2 k]
      rw [this] at q
      cases q
theorem valid_good {l : List Nat} (hb : ∀ x ∈ l, x < 256) (h : Valid l) : (picOf l).Good ∧ (picOf l).Tidy := by
  rcases h with h | h | h
  · rw [picOf, if_pos h.f]
    exact ⟨lPic_good hb (by omega) (by omega) _, tidy_of (lPic_tidy _)⟩
  · rw [picOf, if_neg (by rw [h.f]; omega), if_pos h.f]
    exact ⟨lPic_good hb (rootOf_bd h.root).1 (rootOf_bd h.root).2 _, tidy_of (lPic_tidy _)⟩
  · rw [picOf, if_neg (by rw [h.f]; omega), if_neg (by rw [h.f]; omega)]
    exact ⟨map_good hb h.root, map_tidy h⟩
end Go.Proofs.Ytfcepnhknmbaaaa
