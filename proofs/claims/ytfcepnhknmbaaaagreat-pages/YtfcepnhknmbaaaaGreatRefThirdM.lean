/- The document's third, plainly: what it reads of bytes of form 3. -/
import Derived.Test.YtfcepnhknmbaaaaGreatRefSecondM
import Derived.Test.YtfcepnhknmbaaaaGreatRefBytesB
namespace Go.Proofs.YtfcepnhknmbaaaaGreat
open Go.RowKit Go.Deep

def thF (l : List Nat) (p : Nat) : Bool := prB l p && flB l p
def thW (l : List Nat) (n k : Nat) : Int := if flB l n then wordAt false l (28 + 16 * cntF (thF l) n) k else 0
def thPic (r : Int) (l : List Nat) : Nat → Pic
  | 0 => zeroPic r
  | n + 1 => if prB l n then (thPic r l n).put n (wrB l n) (thW l n) else thPic r l n

theorem thPic_root (r : Int) (l : List Nat) : ∀ n, (thPic r l n).root = r
  | 0 => rfl
  | n + 1 => by
    rw [thPic]
    split
    · exact thPic_root r l n
    · exact thPic_root r l n
theorem thPic_at (r : Int) (l : List Nat) (p : Nat) : ∀ n, (thPic r l n).pr p = (decide (p < n) && prB l p) ∧ (thPic r l n).wr p = (decide (p < n) && (prB l p && wrB l p)) ∧ ∀ k, (thPic r l n).wd p k = if p < n ∧ prB l p = true then thW l p k else 0
  | 0 => ⟨by simp [thPic, zeroPic], by simp [thPic, zeroPic], fun k => by simp [thPic, zeroPic]⟩
  | n + 1 => by
    obtain ⟨i1, i2, i3⟩ := thPic_at r l p n
    rw [thPic]
    by_cases e : p = n
    · subst e
      have n1 : ¬ p < p := Nat.lt_irrefl _
      cases hp : prB l p with
      | true =>
        rw [if_pos rfl]
        refine ⟨?_, ?_, fun k => ?_⟩
        · show (if p = p then true else _) = _; simp
        · show (if p = p then wrB l p else _) = _; simp
        · show (if p = p then thW l p k else _) = _; simp
      | false =>
        rw [if_neg (by simp)]
        rw [hp] at i1 i2 i3
        refine ⟨by rw [i1]; simp, by rw [i2]; simp, fun k => by rw [i3]; simp⟩
    · have hlt : (p < n + 1) = (p < n) := by apply propext; omega
      simp only [hlt]
      split
      · refine ⟨?_, ?_, fun k => ?_⟩
        · show (if p = n then true else (thPic r l n).pr p) = _; rw [if_neg e]; exact i1
        · show (if p = n then wrB l n else (thPic r l n).wr p) = _; rw [if_neg e]; exact i2
        · show (if p = n then thW l n k else (thPic r l n).wd p k) = _; rw [if_neg e]; exact i3 k
      · exact ⟨i1, i2, i3⟩
theorem thW_bd {l : List Nat} (hb : ∀ x ∈ l, x < 256) (n k : Nat) : 0 ≤ thW l n k ∧ thW l n k ≤ 65535 := by
  rw [thW]
  split
  · exact wordAt_lt hb
  · omega
theorem thPic_good {r : Int} {l : List Nat} (hb : ∀ x ∈ l, x < 256) (h0 : -1 ≤ r) (h1 : r < 64) (n : Nat) : (thPic r l n).Good := by
  refine ⟨by rw [thPic_root]; exact h0, by rw [thPic_root]; exact h1, fun p k _ _ => ?_⟩
  rw [(thPic_at r l p n).2.2 k]
  split
  · exact thW_bd hb p k
  · omega
theorem thPic_tidy (r : Int) (l : List Nat) (n : Nat) : (thPic r l n).Tidy := by
  refine tidy_of (fun p hp => ?_)
  obtain ⟨i1, i2, i3⟩ := thPic_at r l p n
  rw [i1] at hp
  refine ⟨?_, fun k => ?_⟩
  · rw [i2, ← Bool.and_assoc, hp]; rfl
  · rw [i3, if_neg]
    rintro ⟨q1, q2⟩
    rw [decide_eq_true q1, q2] at hp
    cases hp
theorem thF_of {l : List Nat} (h : Form3 l) {p : Nat} (hp : p < 64) : thF l p = flB l p := by
  rw [thF]
  cases e : flB l p with
  | false => simp
  | true => rw [h.fl p hp e]; rfl
theorem thF_cnt {l : List Nat} (h : Form3 l) {n : Nat} (hn : n ≤ 64) : cntF (thF l) n = cntF (flB l) n := cntF_congr n (fun i hi => thF_of h (by omega))
theorem thPic_same {l : List Nat} (h : Form3 l) : (thPic (rootOf l) l 64).Same (mapPic l) := by
  refine ⟨thPic_root _ _ _, fun p hp => ?_, fun p hp => ?_, fun p k hp hk => ?_⟩
  · rw [(thPic_at _ l p 64).1, decide_eq_true hp]; rfl
  · rw [(thPic_at _ l p 64).2.1, decide_eq_true hp]
    show (true && (prB l p && wrB l p)) = wrB l p
    cases e : wrB l p with
    | false => simp
    | true => rw [h.wr p hp e]; rfl
  · rw [(thPic_at _ l p 64).2.2 k]
    show _ = if flB l p then wordAt false l (28 + 16 * cntF (flB l) p) k else 0
    rw [thW, thF_cnt h (by omega)]
    cases e : flB l p with
    | false => simp
    | true => rw [if_pos ⟨hp, h.fl p hp e⟩]
/-- The words of a page lie within the bytes. -/
theorem thF_room {l : List Nat} (h : Form3 l) {n : Nat} (hn : n < 64) (hf : thF l n = true) : 28 + 16 * cntF (thF l) n + 16 ≤ l.length := by
  have h1 := h.le
  have h2 := thF_cnt h (n := 64) (Nat.le_refl _)
  have h3 := cntF_mono (f := thF l) (show n + 1 ≤ 64 by omega)
  have h4 : cntF (thF l) (n + 1) = cntF (thF l) n + 1 := by rw [cntF, hf]; rfl
  rw [end3] at h1
  omega
theorem form3_len {l : List Nat} (h : Form3 l) : 32 ≤ l.length := by
  have h1 := h.le
  have h2 := congrArg List.length h.sl
  simp only [List.length_drop, checkL, List.length_cons, List.length_nil] at h2
  rw [end3] at h1 h2
  omega
/-- Read, and written again: the same? -/
theorem third_iff {l : List Nat} (hb : ∀ x ∈ l, x < 256) (hr : rootOk l) : encL (thPic (rootOf l) l 64) = l ↔ Form3 l := by
  constructor
  · intro e
    rw [← e]
    exact enc_form (thPic_good hb (rootOf_bd hr).1 (rootOf_bd hr).2 64) (thPic_tidy _ _ _)
  · intro h
    rw [encL_congr (thPic_same h)]
    exact form_enc hb h

/-- What is so behind n pages. -/
def Rel3 (w wr : World) (g0 : Nat) (l : List Nat) (n : Nat) : Prop := ∃ G Wd, G.gb = g0 ∧ GNew w wr G Wd ∧ GPic G Wd (thPic (rootOf l) l n)

/-- A page's block is put in its place, whichever way the cells were written. -/
theorem GNew.puts {w0 w w1 w2 : World} {G : RG} {Wd : Nat → Nat → Int} (h : GNew w0 w G Wd) (o : Only Nob w w1) {nb : Nat} {t : TypeId} {i : Int} {f : Nat → Int} (hn : w.heap.size ≤ nb) (r : w1.rowIs nb t 9 (pgC i f)) {p : Nat} {b : Bool}
    (o2 : Only (One G.gb) w1 w2) {tg : TypeId} (rg : w2.rowIs G.gb tg 130 (G.set p (some nb) b).cell) : GNew w0 w2 (G.set p (some nb) b) (wdPut Wd nb f) := by
  have h1 := h.nob o
  have hlt := h.lie.lt
  have hne : nb ≠ G.gb := by omega
  have hs := h.o.size
  have hP : ∀ q, (G.set p (some nb) b).P q = if q = p then some nb else G.P q := fun _ => rfl
  have hold : ∀ q x, q < 64 → G.P q = some x → x ≠ nb := fun q x hq e => by
    have := h.lie.pageLt hq e
    omega
  refine ⟨⟨⟨tg, rg⟩, fun q x hq e => ?_⟩, ?_, h.lo, fun q x hq e => ?_, fun q q' x hq hq' e e' => ?_⟩
  · rw [hP] at e
    by_cases c : q = p
    · rw [if_pos c] at e
      injection e with e
      subst e
      refine ⟨t, i, (o2.row r (fun e => hne e)).congr (fun j _ => ?_)⟩
      simp only [pgC, wdPut, if_true]
    · rw [if_neg c] at e
      obtain ⟨t', i', r'⟩ := h1.lie.ps q x hq e
      have hx := (h.plo q x hq e).2
      refine ⟨t', i', (o2.row r' (fun e => hx e)).congr (fun j _ => ?_)⟩
      simp only [pgC, wdPut, if_neg (hold q x hq e)]
  · exact h1.o.after o2 (fun x hx e => by
      have e : x = G.gb := e
      have := h.lo
      omega)
  · rw [hP] at e
    by_cases c : q = p
    · rw [if_pos c] at e
      injection e with e
      subst e
      exact ⟨by omega, hne⟩
    · rw [if_neg c] at e
      exact h.plo q x hq e
  · rw [hP] at e e'
    by_cases c : q = p <;> by_cases c' : q' = p
    · rw [c, c']
    · rw [if_pos c] at e
      rw [if_neg c'] at e'
      injection e with e
      exact (hold q' x hq' e' e.symm).elim
    · rw [if_neg c] at e
      rw [if_pos c'] at e'
      injection e' with e'
      exact (hold q x hq e e'.symm).elim
    · rw [if_neg c] at e
      rw [if_neg c'] at e'
      exact h.inj q q' x hq hq' e e'

section
variable {w wr w5 : World} {g0 : Nat} {l : List Nat} {n : Nat}
theorem Rel3.no (h : Rel3 w wr g0 l n) (hp : prB l n = false) : Rel3 w wr g0 l (n + 1) := by
  obtain ⟨G, Wd, h1, h2, h3⟩ := h
  refine ⟨G, Wd, h1, h2, ?_⟩
  rw [thPic, hp]
  exact h3
theorem Rel3.o (h : Rel3 w wr g0 l n) : Only Nob w wr := by
  obtain ⟨G, Wd, h1, h2, h3⟩ := h
  exact h2.o
theorem Rel3.nob (h : Rel3 w wr g0 l n) (o : Only Nob wr w5) : Rel3 w w5 g0 l n := by
  obtain ⟨G, Wd, h1, h2, h3⟩ := h
  exact ⟨G, Wd, h1, h2.nob o, h3⟩
theorem Rel3.cells (h : Rel3 w wr g0 l n) (o : Only Nob wr w5) {p : Nat} (hp : p < 64) : (∃ v, w5.cell? ⟨g0, 2 + p * 2, none⟩ = some v) ∧ (∃ v, w5.cell? ⟨g0, 2 + p * 2 + 1, none⟩ = some v) ∧ (∀ j, w5.frozen? ⟨g0, j, none⟩ = false) ∧ g0 < wr.heap.size := by
  obtain ⟨G, Wd, rfl, hG, hP⟩ := h
  obtain ⟨t, r⟩ := (hG.nob o).lie.row
  exact ⟨⟨_, r.cell (by omega)⟩, ⟨_, r.cell (by omega)⟩, r.frozen, hG.lie.lt⟩
/-- A page of zeros. -/
theorem Rel3.zero (h : Rel3 w wr g0 l n) (hn : n < 64) (hp : prB l n = true) (hf : flB l n = false) (o : Only Nob wr w5) {nb : Nat} {t : TypeId} {i : Int} (hnb : wr.heap.size ≤ nb) (r : w5.rowIs nb t 9 (pgC i (fun _ => 0))) :
    Rel3 w ((w5.setCell ⟨g0, 2 + n * 2, none⟩ (pt nb)).setCell ⟨g0, 2 + n * 2 + 1, none⟩ (.bool (wrB l n))) g0 l (n + 1) := by
  obtain ⟨G, Wd, rfl, hG, hP⟩ := h
  refine ⟨_, _, ?_, hG.put o hnb r, hP.puts (fun q x hq e => ?_) hn (g := thW l n) (fun k _ => ?_) ?_⟩
  · rfl
  · have := hG.lie.pageLt hq e
    omega
  · rw [thW, hf]; rfl
  · rw [thPic, hp]; rfl
/-- A page of words, laid over one of zeros. -/
theorem Rel3.full (h : Rel3 w wr g0 l n) (hn : n < 64) (hp : prB l n = true) (hf : flB l n = true) (o : Only Nob wr w5) {nb : Nat} {t : TypeId} {i : Int} (hnb : wr.heap.size ≤ nb) (r : w5.rowIs nb t 9 (pgC i (fun _ => 0)))
    {w7 : World} (o7 : Only Nob ((w5.setCell ⟨g0, 2 + n * 2, none⟩ (pt nb)).setCell ⟨g0, 2 + n * 2 + 1, none⟩ (.bool (wrB l n))) w7) {nb2 : Nat} {t2 : TypeId} {j : Int} {f : Nat → Int} (hnb2 : w5.heap.size ≤ nb2) (r2 : w7.rowIs nb2 t2 9 (pgC j f)) (hW : ∀ k, k < 8 → f k = wordAt false l (28 + 16 * cntF (thF l) n) k) :
    Rel3 w (w7.setCell ⟨g0, 2 + n * 2, none⟩ (pt nb2)) g0 l (n + 1) := by
  obtain ⟨G, Wd, rfl, hG, hP⟩ := h
  have h1 := hG.put o hnb r (p := n) (b := wrB l n)
  have p1 := hP.put (b := wrB l n) (f := fun _ => 0) (nb := nb) (p := n) (fun q x hq e => by have := hG.lie.pageLt hq e; omega) hn
  have hs : ((w5.setCell ⟨G.gb, 2 + n * 2, none⟩ (pt nb)).setCell ⟨G.gb, 2 + n * 2 + 1, none⟩ (.bool (wrB l n))).heap.size = w5.heap.size := by rw [World.size_setCell, World.size_setCell]
  obtain ⟨tg, rg⟩ := (h1.nob o7).lie.row
  have h2 := h1.puts o7 (nb := nb2) (by rw [hs]; exact hnb2) r2 (p := n) (b := wrB l n) (w2 := w7.setCell ⟨G.gb, 2 + n * 2, none⟩ (pt nb2)) ((Only.refl (One G.gb) w7).setCell (p := ⟨G.gb, 2 + n * 2, none⟩) (fun _ => rfl) _) (tg := tg) ((rg.set (2 + n * 2) (pt nb2)).congr (fun k hk => by
    rw [setAt_cell _ n (some nb2) (wrB l n) k hk]
    by_cases e : k = 2 + n * 2 + 1
    · rw [if_neg (by omega), if_pos e, e, RG.cellW]
      show Value.bool (if n = n then wrB l n else G.Wr n) = _
      rw [if_pos rfl]
    · rw [if_neg e]
      rfl))
  refine ⟨_, _, ?_, h2, (p1.puts (fun q x hq e => ?_) hn hW rfl).same ?_⟩
  · rfl
  · have := h1.lie.pageLt hq e
    rw [hs] at this
    omega
  · rw [thPic, hp, if_pos rfl]
    refine ⟨rfl, fun p _ => ?_, fun p _ => ?_, fun p k _ hk => ?_⟩
    · show (if p = n then true else if p = n then true else _) = if p = n then true else _
      split <;> rfl
    · show (if p = n then _ else if p = n then _ else _) = if p = n then _ else _
      split <;> rfl
    · show (if p = n then wordAt false l (28 + 16 * cntF (thF l) n) k else if p = n then 0 else (thPic (rootOf l) l n).wd p k) = if p = n then thW l n k else (thPic (rootOf l) l n).wd p k
      by_cases e : p = n
      · rw [if_pos e, if_pos e, thW, hf, if_pos rfl]
      · rw [if_neg e, if_neg e, if_neg e]
end

theorem and_all : ∀ x : Fin 256, bits BinOp.and IntKind.u8 (x.val : Int) 1 = ((x.val % 2 : Nat) : Int) := by decide +kernel
theorem and_bit {x r : Nat} (h : x < 256) : (bits BinOp.and IntKind.u8 ((x : Int) / (2 : Int) ^ r) (1 : Int) == (1 : Int)) = bit x r := by
  have e : (x : Int) / (2 : Int) ^ r = ((x / 2 ^ r : Nat) : Int) := by simp
  have hl : x / 2 ^ r < 256 := Nat.lt_of_le_of_lt (Nat.div_le_self _ _) h
  have := and_all ⟨x / 2 ^ r, hl⟩
  simp only at this
  rw [e, this, bit, Bool.eq_iff_iff, beq_iff_eq, beq_iff_eq]
  omega
end Go.Proofs.YtfcepnhknmbaaaaGreat

/- The contract of the document's third: bytes of form 3. -/
namespace Go.Proofs.YtfcepnhknmbaaaaGreat
open Go.RowKit Go.Deep

theorem Rel3.zero0 {w wr : World} {g0 : Nat} {l : List Nat} {n m : Nat} {W : Bool} (h : Rel3 w wr g0 l n) (cs : Array Value) : Only Nob w (((wr.setCell ⟨g0, 2 + m * 2, none⟩ (pt wr.heap.size)).setCell ⟨g0, 2 + m * 2 + 1, none⟩ (.bool W)).alloc (.cells cs 83)) := by
  obtain ⟨G, Wd, rfl, hG, _⟩ := h
  refine (hG.o.after (((Only.refl (One G.gb) wr).setCell (p := ⟨G.gb, 2 + m * 2, none⟩) (fun _ => rfl) _).setCell (p := ⟨G.gb, 2 + m * 2 + 1, none⟩) (fun _ => rfl) _) (fun x hx e => ?_)).alloc _
  have e : x = G.gb := e
  have := hG.lo
  omega

set_option maxRecDepth 100000 in
set_option maxHeartbeats 4000000 in
theorem third_any (w : World) (s : ByteArray) (hs : s.size ≤ maxLen) :
    Calls Tryz.prog 109 #[.string s] w fun e w' => ReadG w e w' (Form3 (nats s)) (mapPic (nats s)) := by
  have hnl := nats_len s
  unfold maxLen at hs
  by_cases a1 : s.size < 32
  · have b1 : (s.size : Int) < 32 := by omega
    have HNO : Hid (¬ Form3 (nats s)) := fun q => by have := form3_len q; omega
    go_enter Tryz.func109, Tryz.ntmps109
    go_wp2
    go_ret
    exact ReadG.no HNO.out rfl (Only.refl _ _)
  · have b1 : ¬ (s.size : Int) < 32 := by omega
    have h33 : 3 < s.size := by omega
    have HB33 := hid (nats_bt h33)
    have c33 := bytes_bt (nats_bys s) 3
    have j33 : (3 : Int) < (s.size : Int) := by omega
    have hR3 : s[3].toNat = bt (nats s) 3 := by have := HB33.out; omega
    have HRO : Hid (rootOk (nats s) ↔ (bt (nats s) 3 = 255 ∨ bt (nats s) 3 < 64)) := Iff.rfl
    have HRF : Hid (rootOf (nats s) = if bt (nats s) 3 = 255 then -1 else ((bt (nats s) 3 : Nat) : Int)) := rfl
    have HBY := hid (nats_bys s)
    generalize hT : bt (nats s) 3 = T at *
    generalize hl : nats s = l at *
    have HL := hid hl
    clear hl
    by_cases hro : T = 255 ∨ T < 64
    · go_enter Tryz.func109, Tryz.ntmps109
      go_wp2_with fail
      refine (rootedGood_any w T (by omega) hro).mono ?_
      rintro e w6 ⟨rfl, hw6⟩
      have H0 : Hid (Rel3 w w6 w.heap.size l 0) := by
        rw [Hid, hw6]
        exact ⟨_, _, rfl, gst0_new w _ (fun _ _ => 0), by rw [← HRF.out]; exact gst0_pic _ _ _⟩
      have HROK : Hid (rootOk l) := HRO.out.2 hro
      clear hw6
      generalize hg0 : w.heap.size = g0 at *
      go_wp2_with fail
      go_loopw [4, 5] (fun s4 s5 wr => ∃ n : Nat, n ≤ 64 ∧ s5 = .int .i64 n ∧ s4 = .int .i64 (28 + 16 * cntF (thF l) n : Nat) ∧ Rel3 w wr g0 l n) (fun _ s5 _ => 64 - (intOf s5).toNat)
      case atStart => exact ⟨0, by omega, rfl, rfl, H0.out⟩
      case round =>
        clear H0
        rename World => wr
        obtain ⟨n, hn, rfl, rfl, hR⟩ := hrel
        have HR := hid hR
        clear hR
        have hcl := cntF_le (thF l) n
        by_cases hlt : n < 64
        · obtain ⟨q, r, hq, hr, hnq, hrl⟩ : ∃ q r : Nat, (n : Int) / 8 = (q : Int) ∧ (n : Int) % 8 = (r : Int) ∧ n = 8 * q + r ∧ r < 8 := ⟨n / 8, n % 8, by omega, by omega, by omega, by omega⟩
          have hq8 : q < 8 := by omega
          have ip : 4 + q < s.size := by omega
          have iw : 12 + q < s.size := by omega
          have iF : 20 + q < s.size := by omega
          have HP := hid (nats_bt ip)
          have HW := hid (nats_bt iw)
          have HF := hid (nats_bt iF)
          have jp : ((4 + q : Nat) : Int) < (s.size : Int) := by omega
          have jw : ((12 + q : Nat) : Int) < (s.size : Int) := by omega
          have jF : ((20 + q : Nat) : Int) < (s.size : Int) := by omega
          have hp1 : s[4 + q].toNat = bt l (4 + q) := by have e := HP.out; rw [HL.out] at e; omega
          have hw1 : s[12 + q].toNat = bt l (12 + q) := by have e := HW.out; rw [HL.out] at e; omega
          have hF1 : s[20 + q].toNat = bt l (20 + q) := by have e := HF.out; rw [HL.out] at e; omega
          have hp2 := bytes_bt HBY.out (4 + q)
          have hw2 := bytes_bt HBY.out (12 + q)
          have hF2 := bytes_bt HBY.out (20 + q)
          have eP : (bits BinOp.and IntKind.u8 ((bt l (4 + q) : Int) / (2 : Int) ^ r) (1 : Int) == (1 : Int)) = prB l n := by
            rw [and_bit hp2, prB, show n / 8 = q by omega, show n % 8 = r by omega]
          have eW : (bits BinOp.and IntKind.u8 ((bt l (12 + q) : Int) / (2 : Int) ^ r) (1 : Int) == (1 : Int)) = wrB l n := by
            rw [and_bit hw2, wrB, show n / 8 = q by omega, show n % 8 = r by omega]
          have eF : (bits BinOp.and IntKind.u8 ((bt l (20 + q) : Int) / (2 : Int) ^ r) (1 : Int) == (1 : Int)) = flB l n := by
            rw [and_bit hF2, flB, show n / 8 = q by omega, show n % 8 = r by omega]
          have HNX : Hid (cntF (thF l) (n + 1) = cntF (thF l) n + if (prB l n && flB l n) then 1 else 0) := rfl
          obtain ⟨⟨v1, z1⟩, ⟨v2, z2⟩, zf, hg9⟩ := HR.out.cells (Only.refl Nob wr) hlt
          generalize bt l (4 + q) = xp at *
          generalize bt l (12 + q) = xw at *
          generalize bt l (20 + q) = xf at *
          generalize hat : 28 + 16 * cntF (thF l) n = a at *
          have HAT := hid hat
          have ha : a ≤ 10000 := by omega
          clear hnq hat
          cases hP : prB l n with
          | false =>
            rw [hP] at eP HNX
            have HX := hid (HR.out.no hP)
            clear hP eF eW
            go_wp2_with fail
            go_roundw
            case rel => exact ⟨n + 1, by omega, by go_num, by rw [HNX.out, ← HAT.out]; simp, HX.out⟩
            case measure => simp [intOf]; omega
          | true =>
            rw [hP] at eP HNX
            have HP1 := hid hP
            clear hP
            have zo1 : ∀ o, (wr.alloc o).cell? ⟨g0, 2 + n * 2, none⟩ = some v1 := fun o => ((Only.refl Nob wr).alloc o).keep (fun q => q) z1
            have zo2 : ∀ o, (wr.alloc o).cell? ⟨g0, 2 + n * 2 + 1, none⟩ = some v2 := fun o => ((Only.refl Nob wr).alloc o).keep (fun q => q) z2
            have HEQ : Hid ((((wr.alloc (.cells #[.int .i64 0, .int .i64 0, .int .i64 0, .int .i64 0, .int .i64 0, .int .i64 0, .int .i64 0, .int .i64 0, .int .i64 0] 83)).setCell ⟨g0, 2 + n * 2, none⟩ (pt wr.heap.size)).setCell ⟨g0, 2 + n * 2 + 1, none⟩ (.bool (wrB l n))) = ((wr.setCell ⟨g0, 2 + n * 2, none⟩ (pt wr.heap.size)).setCell ⟨g0, 2 + n * 2 + 1, none⟩ (.bool (wrB l n))).alloc (.cells #[.int .i64 0, .int .i64 0, .int .i64 0, .int .i64 0, .int .i64 0, .int .i64 0, .int .i64 0, .int .i64 0, .int .i64 0] 83)) := by
              rw [Hid, World.setCell_alloc_past _ _ _ _ hg9, World.setCell_alloc_past _ _ _ _ (by rw [World.size_setCell]; exact hg9)]
            cases hFl : flB l n with
            | false =>
              rw [hFl] at eF HNX
              have HX := hid (HR.out.zero hlt HP1.out hFl ((Only.refl Nob wr).alloc _) (Nat.le_refl _) (page_row0 wr))
              rw [HEQ.out] at HX
              clear hFl HEQ
              generalize wrB l n = W at *
              go_wp2_with fail
              go_roundw
              case rel => exact ⟨n + 1, by omega, by go_num, by rw [HNX.out, ← HAT.out]; simp, HX.out⟩
              case measure => simp [intOf]; omega
            | true =>
              rw [hFl] at eF HNX
              have HFL := hid hFl
              by_cases hroom : a + 16 ≤ s.size
              · have hroom2 : ¬ (s.size : Int) < (a : Int) + 16 := by omega
                have HFULL : Hid (∀ (w7 : World) (nb2 : Nat) (t2 : TypeId) (f : Nat → Int), Only Nob (((wr.setCell ⟨g0, 2 + n * 2, none⟩ (pt wr.heap.size)).setCell ⟨g0, 2 + n * 2 + 1, none⟩ (.bool (wrB l n))).alloc (.cells #[.int .i64 0, .int .i64 0, .int .i64 0, .int .i64 0, .int .i64 0, .int .i64 0, .int .i64 0, .int .i64 0, .int .i64 0] 83)) w7 → wr.heap.size + 1 ≤ nb2 → w7.rowIs nb2 t2 9 (pgC 0 f) → (∀ k, k < 8 → f k = wordAt false l a k) → Rel3 w (w7.setCell ⟨g0, 2 + n * 2, none⟩ (pt nb2)) g0 l (n + 1)) := fun w7 nb2 t2 f o7 h1 h2 h3 => by
                  rw [← HEQ.out] at o7
                  exact HR.out.full hlt HP1.out HFL.out ((Only.refl Nob wr).alloc _) (Nat.le_refl _) (page_row0 wr) o7 (by rw [World.size_alloc]; exact h1) h2 (by rw [HAT.out]; exact h3)
                have HC7 : Hid (∀ w7 : World, Only Nob (((wr.setCell ⟨g0, 2 + n * 2, none⟩ (pt wr.heap.size)).setCell ⟨g0, 2 + n * 2 + 1, none⟩ (.bool (wrB l n))).alloc (.cells #[.int .i64 0, .int .i64 0, .int .i64 0, .int .i64 0, .int .i64 0, .int .i64 0, .int .i64 0, .int .i64 0, .int .i64 0] 83)) w7 → (∃ v, w7.cell? ⟨g0, 2 + n * 2, none⟩ = some v) ∧ w7.frozen? ⟨g0, 2 + n * 2, none⟩ = false) := fun w7 o7 => by
                  rw [← HEQ.out] at o7
                  obtain ⟨G, Wd, e, hG, _⟩ := HR.out
                  have h1 := (hG.put ((Only.refl Nob wr).alloc _) (Nat.le_refl _) (page_row0 wr) (p := n) (b := wrB l n))
                  rw [e] at h1
                  obtain ⟨t, r⟩ := (h1.nob o7).lie.row
                  rw [show (G.set n (some wr.heap.size) (wrB l n)).gb = g0 from e] at r
                  exact ⟨⟨_, r.cell (by omega)⟩, r.frozen _⟩
                have HSZ : Hid (∀ W : Bool, (((wr.setCell ⟨g0, 2 + n * 2, none⟩ (pt wr.heap.size)).setCell ⟨g0, 2 + n * 2 + 1, none⟩ (.bool W)).alloc (.cells #[.int .i64 0, .int .i64 0, .int .i64 0, .int .i64 0, .int .i64 0, .int .i64 0, .int .i64 0, .int .i64 0, .int .i64 0] 83)).drew.heap.size = wr.heap.size + 1) := fun W => by
                  show (((wr.setCell ⟨g0, 2 + n * 2, none⟩ (pt wr.heap.size)).setCell ⟨g0, 2 + n * 2 + 1, none⟩ (.bool W)).alloc (.cells #[.int .i64 0, .int .i64 0, .int .i64 0, .int .i64 0, .int .i64 0, .int .i64 0, .int .i64 0, .int .i64 0, .int .i64 0] 83)).heap.size = _
                  rw [World.size_alloc, World.size_setCell, World.size_setCell]
                have HWX : Hid (∀ X Y, X = a → Y = a + 16 → ∀ k, k < 8 → wordAt false (nats (s.extract X Y)) 0 k = wordAt false l a k) := fun X Y hX hY => by
                  rw [← HL.out]
                  exact word_ext s false hX hY
                clear hFl HEQ
                generalize wrB l n = W at *
                go_wp2_with fail
                have g1 : IntKind.i64.wrap ((a : Int) + (16 : Int)) = (a : Int) + (16 : Int) := IntWalk.i64_in _ (by omega)
                have f1 : (0 : Int) ≤ (a : Int) := by omega
                have f2 : (a : Int) ≤ (a : Int) + (16 : Int) := by omega
                have f3 : (a : Int) + (16 : Int) ≤ (s.size : Int) := by omega
                have f5 : ((a : Int) + (16 : Int)).toNat = a + 16 := by omega
                go_region_with (go_at_call 125; refine (page_any _ _ false (by rw [ByteArray.size_extract]; omega)).mono ?_; rintro e w7 ⟨rfl, ⟨t7, r7⟩, o7⟩; obtain ⟨⟨v7, z7⟩, zf7⟩ := HC7.out w7 (((Only.refl Nob _).drew).trans o7))
                all_goals
                  have r8 := r7
                  rw [show _ = wr.heap.size + 1 from HSZ.out W] at r8
                  have HX := hid (HFULL.out w7 _ t7 _ (((Only.refl Nob _).drew).trans o7) (Nat.le_refl _) r8 (HWX.out _ _ (by omega) (by omega)))
                  clear z7 zf7 r7 r8 o7
                  go_wp2_with fail
                  go_roundw
                  case rel => exact ⟨n + 1, by omega, by go_num, by rw [HNX.out, ← HAT.out]; go_num, HX.out⟩
                  case measure => simp [intOf]; omega
              · have hroom2 : (s.size : Int) < (a : Int) + 16 := by omega
                have HNO : Hid (¬ Form3 l) := fun q => hroom (by
                  have := thF_room q hlt (by rw [thF, HP1.out, HFL.out]; rfl)
                  rw [HAT.out, hnl] at this
                  exact this)
                have HO := hid (HR.out.zero0 (m := n) (W := wrB l n) #[.int .i64 0, .int .i64 0, .int .i64 0, .int .i64 0, .int .i64 0, .int .i64 0, .int .i64 0, .int .i64 0, .int .i64 0])
                clear hFl HEQ
                generalize wrB l n = W at *
                go_wp2_with fail
                go_ret
                exact ReadG.no HNO.out rfl HO.out
        · have hn64 : n = 64 := by omega
          subst hn64
          obtain ⟨G, Wd, hgb, hG, hPi⟩ := HR.out
          have HGP := hid hPi
          have HGN := hid hG
          have HGB := hid hgb
          have hbd := rootOf_bd HROK.out
          have HGD := hid (thPic_good HBY.out hbd.1 hbd.2 64)
          have HBB := hid (rbytes_any wr G Wd _ hG.lie hPi HGD.out)
          rw [hgb] at HBB
          have HIF := hid (third_iff HBY.out HROK.out)
          clear hG hPi hgb
          cases hcm : ((toS (encL (thPic (rootOf l) l 64))).toList == s.toList) with
          | true =>
            have HOK : Hid (Form3 l) := by
              rw [bool_lists, decide_eq_true_iff, nats_toS (bys_enc HGD.out), HL.out] at hcm
              exact HIF.out.1 hcm
            have HCM : Hid (((toS (encL (thPic (rootOf l) l 64))).toList == s.toList) = decide True) := by rw [Hid, hcm]; rfl
            clear hcm
            generalize encL (thPic (rootOf l) l 64) = EE at *
            go_wp2_with fail
            refine HBB.out.mono ?_
            rintro e w8 ⟨rfl, o8⟩
            have hcm := HCM.out
            go_wp2_with fail
            go_ret
            exact ReadG.yes HOK.out (by rw [HGB.out]; rfl) (HGN.out.nob o8) (HGP.out.same (thPic_same HOK.out))
          | false =>
            have HNO : Hid (¬ Form3 l) := fun q => by
              rw [bool_lists, decide_eq_false_iff_not, nats_toS (bys_enc HGD.out), HL.out] at hcm
              exact hcm (HIF.out.2 q)
            generalize encL (thPic (rootOf l) l 64) = EE at *
            go_wp2_with fail
            refine HBB.out.mono ?_
            rintro e w8 ⟨rfl, o8⟩
            go_wp2_with fail
            go_ret
            exact ReadG.no HNO.out rfl (HGN.out.o.trans o8)
    · have HNO : Hid (¬ Form3 l) := fun q => hro (HRO.out.1 q.root)
      go_enter Tryz.func109, Tryz.ntmps109
      go_wp2_with fail
      refine (rootedBad_any w T (by omega) hro).mono ?_
      rintro e w6 ⟨rfl, rfl⟩
      go_wp2_with fail
      go_loopw [4, 5] (fun s4 s5 wr => s4 = .int .i64 28 ∧ s5 = .int .i64 0 ∧ Only Nob w wr) (fun _ _ _ => 0)
      case atStart => exact ⟨rfl, rfl, Only.refl _ _⟩
      case round =>
        rename World => wr
        obtain ⟨rfl, rfl, hO⟩ := hrel
        have HO := hid hO
        clear hO
        go_wp2_with fail
        go_ret
        exact ReadG.no HNO.out rfl HO.out
end Go.Proofs.YtfcepnhknmbaaaaGreat
