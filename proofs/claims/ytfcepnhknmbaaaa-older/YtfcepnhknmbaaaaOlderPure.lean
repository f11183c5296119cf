/- The law Older, plainly: bytes of forms 1 and 2 as the law puts them together; they are a guest's; one byte another, one more, fewer: none's. -/
import Derived.Test.YtfcepnhknmbaaaaBytesM
namespace Go.Proofs.Ytfcepnhknmbaaaa

/-- A page with k of its words. -/
def oldE (fl : Bool) (f : Nat → Nat → Int) (p : Nat) : Nat → List Nat
  | 0 => p :: (if fl then [p % 2] else [])
  | k + 1 => oldE fl f p k ++ (if fl then [(f p k).toNat % 256, (f p k).toNat / 256] else [(f p k).toNat / 256, (f p k).toNat % 256])
def oldB (fl : Bool) (has : Nat → Bool) (f : Nat → Nat → Int) : Nat → List Nat
  | 0 => []
  | p + 1 => if has p then oldB fl has f p ++ oldE fl f p 8 else oldB fl has f p
def oldPic (r : Int) (fl : Bool) (has : Nat → Bool) (f : Nat → Nat → Int) : Pic := ⟨r, has, fun p => has p && (if fl then p % 2 == 1 else true), fun p k => if has p then f p k else 0⟩

section
variable {fl : Bool} {has : Nat → Bool} {f : Nat → Nat → Int}

theorem oldE_len (p k : Nat) : (oldE fl f p k).length = (if fl then 2 else 1) + 2 * k := by
  induction k with
  | zero => cases fl <;> rfl
  | succ k ih =>
    rw [oldE, List.length_append, ih]
    cases fl <;> simp <;> omega
theorem oldE8 (p : Nat) : (oldE fl f p 8).length = lE fl := by
  rw [oldE_len]
  cases fl <;> rfl
theorem oldB_len (n : Nat) : (oldB fl has f n).length = cntF has n * lE fl := by
  induction n with
  | zero => simp [oldB, cntF]
  | succ n ih =>
    rw [oldB, cntF]
    cases h : has n with
    | true => simp only [if_true, List.length_append, ih, oldE8]; rw [Nat.add_mul]; omega
    | false => simp [ih]
theorem oldE_pre (p : Nat) : ∀ k j, k ≤ j → ∃ r, oldE fl f p j = oldE fl f p k ++ r
  | k, 0, h => ⟨[], by rw [show k = 0 by omega]; simp⟩
  | k, j + 1, h => by
    by_cases e : k = j + 1
    · exact ⟨[], by rw [e]; simp⟩
    · obtain ⟨r, hr⟩ := oldE_pre p k j (by omega)
      exact ⟨r ++ _, by rw [oldE, hr, List.append_assoc]⟩
theorem oldB_pre : ∀ n m, n ≤ m → ∃ r, oldB fl has f m = oldB fl has f n ++ r
  | n, 0, h => ⟨[], by rw [show n = 0 by omega]; simp⟩
  | n, m + 1, h => by
    by_cases e : n = m + 1
    · exact ⟨[], by rw [e]; simp⟩
    · obtain ⟨r, hr⟩ := oldB_pre n m (by omega)
      rw [oldB]
      cases has m with
      | true => exact ⟨r ++ _, by simp only [if_true]; rw [hr, List.append_assoc]⟩
      | false => exact ⟨r, by simp [hr]⟩

/-- The bytes of a page in their place. -/
theorem old_at {hd sl : List Nat} {h n j : Nat} (hh : hd.length = h + 1) (hn : n < 64) (hp : has n = true) (hj : j < lE fl) : bt (hd ++ oldB fl has f 64 ++ sl) (lAt fl h (cntF has n) + j) = bt (oldE fl f n 8) j := by
  obtain ⟨r, hr⟩ := oldB_pre (fl := fl) (has := has) (f := f) (n + 1) 64 (by omega)
  have e : hd ++ oldB fl has f 64 ++ sl = (hd ++ oldB fl has f n) ++ (oldE fl f n 8 ++ (r ++ sl)) := by
    rw [hr, oldB, hp]
    simp only [if_true, List.append_assoc]
  have e2 : lAt fl h (cntF has n) + j = (hd ++ oldB fl has f n).length + j := by
    rw [List.length_append, oldB_len, hh, lAt]
  rw [e, e2, bt_right, bt_left (by rw [oldE8]; exact hj)]

theorem oldE_first (p : Nat) : bt (oldE fl f p 8) 0 = p := by
  obtain ⟨r, hr⟩ := oldE_pre (fl := fl) (f := f) p 0 8 (by omega)
  rw [hr, bt_left (by rw [oldE_len]; split <;> omega)]
  rfl
theorem oldE_flag (p : Nat) : bt (oldE true f p 8) 1 = p % 2 := by
  obtain ⟨r, hr⟩ := oldE_pre (fl := true) (f := f) p 0 8 (by omega)
  rw [hr, bt_left (by rw [oldE_len]; simp)]
  rfl
theorem oldE_word (p k : Nat) (hk : k < 8) : bt (oldE fl f p 8) ((if fl then 2 else 1) + 2 * k) = (if fl then (f p k).toNat % 256 else (f p k).toNat / 256) ∧ bt (oldE fl f p 8) ((if fl then 2 else 1) + 2 * k + 1) = (if fl then (f p k).toNat / 256 else (f p k).toNat % 256) := by
  obtain ⟨r, hr⟩ := oldE_pre (fl := fl) (f := f) p (k + 1) 8 (by omega)
  have hl := oldE_len (fl := fl) (f := f) p k
  have hl2 := oldE_len (fl := fl) (f := f) p (k + 1)
  rw [hr, bt_left (by rw [hl2]; omega), bt_left (by rw [hl2]; omega), oldE]
  have e1 : (if fl = true then 2 else 1) + 2 * k = (oldE fl f p k).length + 0 := by rw [hl]; rfl
  have e2 : (if fl = true then 2 else 1) + 2 * k + 1 = (oldE fl f p k).length + 1 := by rw [hl]
  rw [e2, e1, bt_right, bt_right]
  cases fl <;> exact ⟨rfl, rfl⟩

theorem cntF_next (has : Nat → Bool) (n : Nat) : cntF has (n + 1) = if has n then cntF has n + 1 else cntF has n := by
  rw [cntF]
  cases has n <;> simp <;> omega

/-- The pages one by one. -/
theorem old_ok {hd sl : List Nat} {h : Nat} {r : Int} (hh : hd.length = h + 1) (hf : ∀ p k, p < 64 → k < 8 → 0 ≤ f p k ∧ f p k ≤ 65535) : ∀ n, n ≤ 64 →
    lOk (hd ++ oldB fl has f 64 ++ sl) fl h (cntF has n) ∧ lLeast (hd ++ oldB fl has f 64 ++ sl) fl h (cntF has n) ≤ n ∧
    (∀ q, (lPic r (hd ++ oldB fl has f 64 ++ sl) fl h (cntF has n)).pr q = (decide (q < n) && has q)) ∧
    (∀ q, (lPic r (hd ++ oldB fl has f 64 ++ sl) fl h (cntF has n)).wr q = (decide (q < n) && (has q && (if fl then q % 2 == 1 else true)))) ∧
    (∀ q k, k < 8 → (lPic r (hd ++ oldB fl has f 64 ++ sl) fl h (cntF has n)).wd q k = if q < n ∧ has q = true then f q k else 0)
  | 0, _ => by
    refine ⟨trivial, Nat.le_refl _, fun q => ?_, fun q => ?_, fun q k _ => ?_⟩
    · show false = _; simp
    · show false = _; simp
    · show (0 : Int) = _; simp
  | n + 1, hn => by
    obtain ⟨i1, i2, i3, i4, i5⟩ := old_ok (r := r) hh hf n (by omega)
    rw [cntF_next]
    cases hp : has n with
    | false =>
      simp only [Bool.false_eq_true, if_false]
      refine ⟨i1, by omega, fun q => ?_, fun q => ?_, fun q k hk => ?_⟩
      · rw [i3]
        by_cases e : q = n
        · subst e; simp [hp]
        · have : (q < n) = (q < n + 1) := by apply propext; omega
          simp only [this]
      · rw [i4]
        by_cases e : q = n
        · subst e; simp [hp]
        · have : (q < n) = (q < n + 1) := by apply propext; omega
          simp only [this]
      · rw [i5 q k hk]
        by_cases e : q = n
        · subst e; simp [hp]
        · have : (q < n) = (q < n + 1) := by apply propext; omega
          simp only [this]
    | true =>
      simp only [if_true]
      have hE : 17 ≤ lE fl := by cases fl <;> decide
      have a0 : lN (hd ++ oldB fl has f 64 ++ sl) fl h (cntF has n) = n := by
        have := old_at (fl := fl) (f := f) (sl := sl) hh (show n < 64 by omega) hp (j := 0) (by omega)
        rw [oldE_first] at this
        exact this
      have aw : lWr (hd ++ oldB fl has f 64 ++ sl) fl h (cntF has n) = (if fl then n % 2 == 1 else true) := by
        cases fl with
        | false => rfl
        | true =>
          have := old_at (fl := true) (f := f) (sl := sl) hh (show n < 64 by omega) hp (j := 1) (by decide)
          rw [oldE_flag] at this
          show (bt _ (lAt true h (cntF has n) + 1) == 1) = (n % 2 == 1)
          rw [this]
      have af : fl = true → bt (hd ++ oldB fl has f 64 ++ sl) (lAt fl h (cntF has n) + 1) ≤ 1 := fun e => by
        subst e
        rw [old_at (fl := true) (f := f) (sl := sl) hh (show n < 64 by omega) hp (j := 1) (by decide), oldE_flag]
        omega
      have ad : ∀ k, k < 8 → lW (hd ++ oldB fl has f 64 ++ sl) fl h (cntF has n) k = f n k := fun k hk => by
        obtain ⟨w1, w2⟩ := oldE_word (fl := fl) (f := f) n k hk
        obtain ⟨b0, b1⟩ := hf n k (by omega) hk
        have hj : (if fl then 2 else 1) + 2 * k + 1 < lE fl := by cases fl <;> simp [lE] <;> omega
        have q1 := old_at (fl := fl) (f := f) (sl := sl) hh (show n < 64 by omega) hp (j := (if fl then 2 else 1) + 2 * k) (by omega)
        have q2 := old_at (fl := fl) (f := f) (sl := sl) hh (show n < 64 by omega) hp (j := (if fl then 2 else 1) + 2 * k + 1) hj
        rw [w1, ← Nat.add_assoc] at q1
        rw [w2, ← Nat.add_assoc, ← Nat.add_assoc] at q2
        rw [lW, wordAt, q1, q2]
        cases fl <;> simp <;> omega
      refine ⟨⟨i1, by rw [a0]; exact i2, by rw [a0]; omega, af⟩, by rw [lLeast, a0]; omega, fun q => ?_, fun q => ?_, fun q k hk => ?_⟩
      · show (if q = lN _ fl h (cntF has n) then true else (lPic r _ fl h (cntF has n)).pr q) = _
        rw [a0, i3]
        by_cases e : q = n
        · subst e; simp [hp]
        · have : (q < n) = (q < n + 1) := by apply propext; omega
          rw [if_neg e]
          simp only [this]
      · show (if q = lN _ fl h (cntF has n) then lWr _ fl h (cntF has n) else (lPic r _ fl h (cntF has n)).wr q) = _
        rw [a0, aw, i4]
        by_cases e : q = n
        · subst e; simp [hp]
        · have : (q < n) = (q < n + 1) := by apply propext; omega
          rw [if_neg e]
          simp only [this]
      · show (if q = lN _ fl h (cntF has n) then lW _ fl h (cntF has n) k else (lPic r _ fl h (cntF has n)).wd q k) = _
        rw [a0, i5 q k hk]
        by_cases e : q = n
        · subst e; rw [if_pos rfl, if_pos ⟨by omega, hp⟩]; exact ad k hk
        · have : (q < n) = (q < n + 1) := by apply propext; omega
          rw [if_neg e]
          simp only [this]

/-- Form 1, form 2: the head. -/
def oldH (r : Int) (fl : Bool) (m : Nat) : List Nat := if fl then [67, 86, 2, rootB r, m] else [67, 86, 1, m]
def oldA (r : Int) (fl : Bool) (has : Nat → Bool) (f : Nat → Nat → Int) : List Nat := oldH r fl (cntF has 64) ++ oldB fl has f 64
def oldS (fl : Bool) (l : List Nat) : List Nat := if fl then seal2 l else seal1 l
def oldL (r : Int) (fl : Bool) (has : Nat → Bool) (f : Nat → Nat → Int) : List Nat := oldA r fl has f ++ oldS fl (oldA r fl has f)

theorem oldA_len (r : Int) : (oldA r fl has f).length = lAt fl (if fl then 4 else 3) (cntF has 64) := by
  rw [oldA, List.length_append, oldB_len, lAt]
  cases fl <;> rfl
theorem old_valid {r : Int} (hr0 : -1 ≤ r) (hr1 : r < 64) (hr : fl = false → r = -1) (hf : ∀ p k, p < 64 → k < 8 → 0 ≤ f p k ∧ f p k ≤ 65535) : Valid (oldL r fl has f) ∧ (picOf (oldL r fl has f)).Same (oldPic r fl has f) := by
  have hlen := oldA_len (fl := fl) (has := has) (f := f) r
  have hdr : (oldL r fl has f).drop (oldA r fl has f).length = oldS fl (oldA r fl has f) := by rw [oldL]; simp
  have htk : (oldL r fl has f).take (oldA r fl has f).length = oldA r fl has f := by rw [oldL]; simp
  have hle : (oldA r fl has f).length ≤ (oldL r fl has f).length := by rw [oldL, List.length_append]; omega
  cases fl with
  | false =>
    have hh : (oldH r false (cntF has 64)).length = 3 + 1 := rfl
    have hb3 : bt (oldL r false has f) 3 = cntF has 64 := rfl
    have e : r = -1 := hr rfl
    obtain ⟨i1, _, i3, i4, i5⟩ := old_ok (fl := false) (has := has) (f := f) (sl := oldS false (oldA r false has f)) (r := -1) hh hf 64 (Nat.le_refl _)
    have hlen : (oldA r false has f).length = lAt false 3 (cntF has 64) := hlen
    rw [hlen] at hdr htk hle
    refine ⟨Or.inl ⟨rfl, rfl, rfl, by rw [hb3]; exact i1, by rw [hb3]; exact hle, by rw [hb3, hdr, htk]; rfl⟩, ?_⟩
    have hp : picOf (oldL r false has f) = lPic (-1) (oldL r false has f) false 3 (cntF has 64) := rfl
    rw [hp]
    refine ⟨by rw [lPic_root, e]; rfl, fun p hp => ?_, fun p hp => ?_, fun p k hp hk => ?_⟩
    · refine (i3 p).trans ?_
      simp [oldPic, hp]
    · refine (i4 p).trans ?_
      simp [oldPic, hp]
    · refine (i5 p k hk).trans ?_
      simp [oldPic, hp]
  | true =>
    have hh : (oldH r true (cntF has 64)).length = 4 + 1 := rfl
    have hb3 : bt (oldL r true has f) 4 = cntF has 64 := rfl
    have hbr : bt (oldL r true has f) 3 = rootB r := rfl
    have hro : rootOf (oldL r true has f) = r := by
      rw [rootOf, hbr, rootB]
      by_cases e : r = -1
      · rw [if_pos e, if_pos rfl, e]
      · rw [if_neg e, if_neg (by omega)]; omega
    obtain ⟨i1, _, i3, i4, i5⟩ := old_ok (fl := true) (has := has) (f := f) (sl := oldS true (oldA r true has f)) (r := r) hh hf 64 (Nat.le_refl _)
    have hlen : (oldA r true has f).length = lAt true 4 (cntF has 64) := hlen
    rw [hlen] at hdr htk hle
    refine ⟨Or.inr (Or.inl ⟨rfl, rfl, rfl, ?_, by rw [hb3]; exact i1, by rw [hb3]; exact hle, by rw [hb3, hdr, htk]; rfl⟩), ?_⟩
    · rw [rootOk, hbr, rootB]
      by_cases e : r = -1
      · rw [if_pos e]; exact Or.inl rfl
      · rw [if_neg e]; exact Or.inr (by omega)
    have hp : picOf (oldL r true has f) = lPic (rootOf (oldL r true has f)) (oldL r true has f) true 4 (cntF has 64) := rfl
    rw [hp, hro]
    refine ⟨by rw [lPic_root]; rfl, fun p hp => ?_, fun p hp => ?_, fun p k hp hk => ?_⟩
    · refine (i3 p).trans ?_
      simp [oldPic, hp]
    · refine (i4 p).trans ?_
      simp [oldPic, hp]
    · refine (i5 p k hk).trans ?_
      simp [oldPic, hp]
end

/-! None's. -/
theorem old_len_of {l : List Nat} (h : Valid l) : (bt l 2 = 1 → Form1 l ∧ l.length = lAt false 3 (bt l 3) + 1) ∧ (bt l 2 = 2 → Form2 l ∧ l.length = lAt true 4 (bt l 4) + 2) := by
  refine ⟨fun e => ?_, fun e => ?_⟩
  · rcases h with h | h | h
    · refine ⟨h, ?_⟩
      have h1 := congrArg List.length h.sl
      have h2 := h.le
      simp only [List.length_drop, seal1, List.length_cons, List.length_nil] at h1
      omega
    · have := h.f; omega
    · have := h.f; omega
  · rcases h with h | h | h
    · have := h.f; omega
    · refine ⟨h, ?_⟩
      have h1 := congrArg List.length h.sl
      have h2 := h.le
      simp only [List.length_drop, seal2, List.length_cons, List.length_nil] at h1
      omega
    · have := h.f; omega
theorem old_form {l : List Nat} (h : Valid l) (h3 : bt l 2 ≠ 3) : bt l 2 = 1 ∨ bt l 2 = 2 := by
  rcases h with h | h | h
  · exact Or.inl h.f
  · exact Or.inr h.f
  · exact absurd h.f h3

/-- One more. -/
theorem old_more {l : List Nat} (h : Valid l) (h3 : bt l 2 ≠ 3) (h5 : 5 ≤ l.length) (x : Nat) : ¬ Valid (l ++ [x]) := by
  intro q
  have e2 : bt (l ++ [x]) 2 = bt l 2 := bt_left (by omega)
  have e3 : bt (l ++ [x]) 3 = bt l 3 := bt_left (by omega)
  have e4 : bt (l ++ [x]) 4 = bt l 4 := bt_left (by omega)
  have q := old_len_of q
  have h' := old_len_of h
  rw [e2, e3, e4, List.length_append] at q
  simp only [List.length_cons, List.length_nil] at q
  rcases old_form h h3 with e | e
  · have a := (q.1 e).2
    have b := (h'.1 e).2
    omega
  · have a := (q.2 e).2
    have b := (h'.2 e).2
    omega
/-- Fewer. -/
theorem old_less {l : List Nat} (h : Valid l) (h3 : bt l 2 ≠ 3) {n : Nat} (hn : n < l.length) : ¬ Valid (l.take n) := by
  intro q
  have hl : (l.take n).length = n := by rw [List.length_take]; omega
  have hz : ∀ i, n ≤ i → bt (l.take n) i = 0 := fun i hi => bt_ge (by rw [hl]; exact hi)
  have hs : ∀ i, i < n → bt (l.take n) i = bt l i := fun i hi => bt_take hi
  have h' := old_len_of h
  have q' := old_len_of q
  have e2 : bt (l.take n) 2 = bt l 2 := by
    by_cases e : 2 < n
    · exact hs 2 e
    · have z := hz 2 (by omega)
      rcases q with q | q | q
      · have := q.f; omega
      · have := q.f; omega
      · have := q.f; omega
  rw [hl] at q'
  rcases old_form h h3 with e | e
  · have a := (q'.1 (by rw [e2]; exact e)).2
    have b := (h'.1 e).2
    by_cases e3 : 3 < n
    · rw [hs 3 e3] at a; omega
    · rw [hz 3 (by omega)] at a
      simp only [lAt] at a
      omega
  · have a := (q'.2 (by rw [e2]; exact e)).2
    have b := (h'.2 e).2
    by_cases e3 : 4 < n
    · rw [hs 4 e3] at a; omega
    · rw [hz 4 (by omega)] at a
      simp only [lAt] at a
      omega

theorem old_sum_set : ∀ (l : List Nat) (i y : Nat), i < l.length → (l.set i y).sum + bt l i = l.sum + y
  | [], i, y, h => by simp at h
  | a :: l, 0, y, h => by show (y :: l).sum + a = (a :: l).sum + y; simp only [List.sum_cons]; omega
  | a :: l, i + 1, y, h => by
    have := old_sum_set l i y (by simpa using h)
    show (a :: l.set i y).sum + bt l i = (a :: l).sum + y
    simp only [List.sum_cons]
    omega
theorem old_bt_set {l : List Nat} {i y j : Nat} (hi : i < l.length) : bt (l.set i y) j = if j = i then y else bt l j := by
  by_cases e : j = i
  · subst e
    rw [if_pos rfl, bt_lt (by rw [List.length_set]; exact hi)]
    simp
  · rw [if_neg e]
    by_cases q : j < l.length
    · rw [bt_lt (by rw [List.length_set]; exact q), bt_lt q]
      simp [Ne.symm e]
    · rw [bt_ge (by rw [List.length_set]; omega), bt_ge (by omega)]
/-- One byte another. -/
theorem old_other {l : List Nat} (h : Valid l) (h3 : bt l 2 ≠ 3) {i y : Nat} (hi : i < l.length) (h2 : i ≠ 2) (hy : y = bt l i + 1 ∨ y + 1 = bt l i) : ¬ Valid (l.set i y) := by
  intro q
  have e2 : bt (l.set i y) 2 = bt l 2 := by rw [old_bt_set hi, if_neg (Ne.symm h2)]
  have h' := old_len_of h
  have q' := old_len_of q
  rw [List.length_set] at q'
  have hne : l.set i y ≠ l := fun e => by
    have := old_bt_set (y := y) (j := i) hi
    rw [e, if_pos rfl] at this
    omega
  -- the bytes ahead of the seal, and the seal
  have key : ∀ m, m ≤ l.length → (l.set i y).drop m = l.drop m → ((l.set i y).take m).sum % 256 = (l.take m).sum % 256 → False := fun m hm e1 e3 => by
    by_cases c : i < m
    · have e4 : (l.set i y).take m = (l.take m).set i y := List.take_set
      rw [e4] at e3
      have := old_sum_set (l.take m) i y (by rw [List.length_take]; omega)
      rw [bt_take c] at this
      omega
    · have e4 : (l.set i y).take m = l.take m := by rw [List.take_set, List.set_eq_of_length_le (by rw [List.length_take]; omega)]
      exact hne (by rw [← List.take_append_drop m (l.set i y), e1, e4, List.take_append_drop])
  rcases old_form h h3 with e | e
  · obtain ⟨f1, a1⟩ := h'.1 e
    obtain ⟨f2, a2⟩ := q'.1 (by rw [e2]; exact e)
    have em : lAt false 3 (bt (l.set i y) 3) = lAt false 3 (bt l 3) := by omega
    have s1 := f1.sl
    have s2 := f2.sl
    have hm := f1.le
    rw [em] at s2
    by_cases c : i < lAt false 3 (bt l 3)
    · have e5 : (l.set i y).drop (lAt false 3 (bt l 3)) = l.drop (lAt false 3 (bt l 3)) := List.drop_set_of_lt c
      refine key _ hm e5 ?_
      rw [e5, s1] at s2
      exact (List.cons.inj s2).1.symm
    · have e4 : (l.set i y).take (lAt false 3 (bt l 3)) = l.take (lAt false 3 (bt l 3)) := by rw [List.take_set, List.set_eq_of_length_le (by rw [List.length_take]; omega)]
      rw [e4] at s2
      exact key _ hm (by rw [s2, s1]) (by rw [e4])
  · obtain ⟨f1, a1⟩ := h'.2 e
    obtain ⟨f2, a2⟩ := q'.2 (by rw [e2]; exact e)
    have em : lAt true 4 (bt (l.set i y) 4) = lAt true 4 (bt l 4) := by omega
    have s1 := f1.sl
    have s2 := f2.sl
    have hm := f1.le
    rw [em] at s2
    by_cases c : i < lAt true 4 (bt l 4)
    · have e5 : (l.set i y).drop (lAt true 4 (bt l 4)) = l.drop (lAt true 4 (bt l 4)) := List.drop_set_of_lt c
      refine key _ hm e5 ?_
      rw [e5, s1] at s2
      exact (List.cons.inj s2).1.symm
    · have e4 : (l.set i y).take (lAt true 4 (bt l 4)) = l.take (lAt true 4 (bt l 4)) := by rw [List.take_set, List.set_eq_of_length_le (by rw [List.length_take]; omega)]
      rw [e4] at s2
      exact key _ hm (by rw [s2, s1]) (by rw [e4])
end Go.Proofs.Ytfcepnhknmbaaaa
