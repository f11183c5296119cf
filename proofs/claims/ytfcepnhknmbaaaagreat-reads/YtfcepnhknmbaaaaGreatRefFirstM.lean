/- The contract of the document's first: bytes of form 1. -/
import Derived.Test.YtfcepnhknmbaaaaGreatRefBytesC
import Derived.BigQuiet
namespace Go.Proofs.YtfcepnhknmbaaaaGreat
open Go.RowKit Go.Deep

theorem word_ext (s : ByteArray) (hi : Bool) {a X Y : Nat} (hX : X = a) (hY : Y = a + 16) : ∀ k, k < 8 → wordAt hi (nats (s.extract X Y)) 0 k = wordAt hi (nats s) a k := fun k hk => by
  subst hX hY
  have e : ∀ i, i < 16 → bt (nats (s.extract X (X + 16))) i = bt (nats s) (X + i) := fun i h => by
    rw [nats_extract, bt_take (by omega), bt_drop]
  simp only [wordAt, Nat.zero_add]
  rw [e _ (by omega), e _ (by omega), show X + (2 * k + 1) = X + 2 * k + 1 by omega]

/-- Put, with words alike. -/
theorem GPic.puts {G : RG} {Wd : Nat → Nat → Int} {P Q : Pic} (h : GPic G Wd P) {nb p : Nat} {b : Bool} {f : Nat → Int} (hn : ∀ q x, q < 64 → G.P q = some x → x ≠ nb) (hp : p < 64) {g : Nat → Int} (hg : ∀ k, k < 8 → f k = g k) (hQ : Q = P.put p b g) : GPic (G.set p (some nb) b) (wdPut Wd nb f) Q := by
  refine (h.put (b := b) (f := f) hn hp).same ?_
  subst hQ
  refine ⟨rfl, fun _ _ => rfl, fun _ _ => rfl, fun q k _ hk => ?_⟩
  show (if q = p then f k else P.wd q k) = if q = p then g k else P.wd q k
  rw [hg k hk]

/-- The head of form 1. -/
structure Head1 (s : ByteArray) : Prop where
  len : s.size = 5 + 17 * bt (nats s) 3
  le : bt (nats s) 3 ≤ 64
  sum : ((nats s).take (s.size - 1)).sum % 256 = bt (nats s) (s.size - 1)

theorem head1_of {s : ByteArray} (h : Form1 (nats s)) : Head1 s := by
  have hl := h.le
  have h1 := congrArg List.length h.sl
  have hn := nats_len s
  simp only [List.length_drop, seal1, List.length_cons, List.length_nil, lAt, lE_false] at h1 hl
  have he : s.size = 5 + 17 * bt (nats s) 3 := by omega
  refine ⟨he, ?_, ?_⟩
  · have := (lOk_least h.ok).1
    have := (lOk_least h.ok).2
    omega
  · have e : lAt false 3 (bt (nats s) 3) = s.size - 1 := by simp only [lAt, lE_false]; omega
    have h2 := congrArg (fun l => bt l 0) h.sl
    simp only [bt_drop, e] at h2
    exact h2.symm
theorem form1_of {s : ByteArray} (c : bt (nats s) 0 = 67) (v : bt (nats s) 1 = 86) (f : bt (nats s) 2 = 1) (h : Head1 s) (ok : lOk (nats s) false 3 (bt (nats s) 3)) : Form1 (nats s) := by
  have hn := nats_len s
  have hl := h.len
  have e : lAt false 3 (bt (nats s) 3) = s.size - 1 := by simp only [lAt, lE_false]; omega
  refine ⟨c, v, f, ok, by omega, ?_⟩
  rw [e]
  apply ext_bt
  · rw [List.length_drop]; simp [seal1]; omega
  · intro i hi
    rw [List.length_drop] at hi
    have : i = 0 := by omega
    subst this
    rw [bt_drop]
    exact h.sum.symm

set_option maxRecDepth 100000 in
set_option maxHeartbeats 2000000 in
theorem firstBad_any (w : World) (s : ByteArray) (hs : s.size ≤ maxLen) (hb : ¬ Head1 s) :
    Calls Tryz.prog 107 #[.string s] w fun e w' => e = .returned (.pointer none) ∧ Only Nob w w' := by
  have hnl := nats_len s
  unfold maxLen at hs
  by_cases a1 : s.size < 5
  · have b1 : (s.size : Int) < 5 := by omega
    go_enter Tryz.func107, Tryz.ntmps107
    go_wp2_with fail
    go_quiet (fail)
    go_wp2
    go_ret
    exact ⟨rfl, (Only.refl _ _).drewN _⟩
  · have hi3 : 3 < s.size := by omega
    have HB3 := hid (nats_bt hi3)
    have c3 := bytes_bt (nats_bys s) 3
    have c3a : (s[3].toNat : Int) < 256 := by rw [HB3.out]; omega
    have c3b : (0 : Int) ≤ (s[3].toNat : Int) := by omega
    have i3 : (3 : Int) < (s.size : Int) := by omega
    have K1 : Hid (IntKind.i64.wrap (s[3].toNat : Int) = (s[3].toNat : Int)) := IntWalk.i64_in _ (by omega)
    have K2 : Hid (IntKind.i64.wrap ((17 : Int) * (s[3].toNat : Int)) = (17 : Int) * (s[3].toNat : Int)) := IntWalk.i64_in _ (by omega)
    have K3 : Hid (IntKind.i64.wrap ((5 : Int) + (17 : Int) * (s[3].toNat : Int)) = (5 : Int) + (17 : Int) * (s[3].toNat : Int)) := IntWalk.i64_in _ (by omega)
    by_cases a2 : s.size = 5 + 17 * bt (nats s) 3
    · have HE : Hid (((s.size : Int) != (5 : Int) + (17 : Int) * (s[3].toNat : Int)) = decide False) := by rw [Hid, decide_false, bne_eq_false_iff_eq, HB3.out]; omega
      by_cases a3 : bt (nats s) 3 ≤ 64
      · have HE3 : Hid (decide ((64 : Int) < (s[3].toNat : Int)) = false) := decide_eq_false (by rw [HB3.out]; omega)
        obtain ⟨m, hm⟩ : ∃ m, s.size = m + 1 := ⟨s.size - 1, by omega⟩
        have HM := hid hm
        have hlm : m < s.size := by omega
        have HBL := hid (nats_bt hlm)
        have cl := bytes_bt (nats_bys s) m
        have HES : Hid ((((nats (s.extract 0 m)).sum : Nat) : Int) % 256 ≠ (s[m].toNat : Int)) := by
          rw [Hid, HBL.out, nats_extract, List.drop_zero, Nat.sub_zero]
          intro e
          exact hb ⟨a2, a3, by rw [show s.size - 1 = m by omega]; omega⟩
        have HZ : Hid ((s.extract 0 m).size ≤ 100000) := by rw [Hid, ByteArray.size_extract]; omega
        have K4 : Hid (IntKind.i64.wrap ((s.size : Int) - (1 : Int)) = (m : Int)) := by rw [Hid, IntWalk.i64_in _ (by omega)]; omega
        have K7 : Hid (IntKind.i64.wrap (s[m].toNat : Int) = (s[m].toNat : Int)) := IntWalk.i64_in _ (by rw [HBL.out]; omega)
        have im1 : (m : Int) < (s.size : Int) := by omega
        have im2 : (m : Int) ≤ (s.size : Int) := by omega
        have im3 : (0 : Int) ≤ (m : Int) := by omega
        have HSM : Hid (∀ wz : World, Calls Tryz.prog 124 #[.string (s.extract 0 m)] wz fun e w' => e = .returned (.int .i64 (((nats (s.extract 0 m)).sum : Nat) : Int)) ∧ w' = wz) := fun wz => (rsum_any wz (s.extract 0 m) HZ.out).mono (fun _ _ h => ⟨h.1, h.2.symm⟩)
        have hx0 : (0 : Int) ≤ (((nats (s.extract 0 m)).sum : Nat) : Int) := by omega
        clear a2 a3 hm
        generalize hX : (((nats (s.extract 0 m)).sum : Nat) : Int) = X at *
        go_enter Tryz.func107, Tryz.ntmps107
        go_wp2_with fail
        have b1 : decide ((s.size : Int) < 5) = false := decide_eq_false (by omega)
        have k1 := K1.out
        have k2 := K2.out
        have k3 := K3.out
        have b2 := HE.out
        have b3 := HE3.out
        have k4 := K4.out
        have k7 := K7.out
        have jm1 : (m : Int) < (s.size : Int) := by omega
        have jm2 : (m : Int) ≤ (s.size : Int) := by omega
        have jm3 : (0 : Int) ≤ (m : Int) := by omega
        go_quiet (first | (go_at_call 124; refine Calls.quiet_of_same (HSM.out _)))
        clear k1 k2 k3 b1 b2 b3 k4 k7
        have h4 := HES.out
        go_wp2
        go_ret
        exact ⟨rfl, (Only.refl _ _).drewN _⟩
      · have HE3 : Hid (decide ((64 : Int) < (s[3].toNat : Int)) = true) := decide_eq_true (by rw [HB3.out]; omega)
        clear a2 a3
        go_enter Tryz.func107, Tryz.ntmps107
        go_wp2_with fail
        have b1 : decide ((s.size : Int) < 5) = false := decide_eq_false (by omega)
        have k1 := K1.out
        have k2 := K2.out
        have k3 := K3.out
        have b2 := HE.out
        have b3 := HE3.out
        go_quiet (fail)
        clear k1 k2 k3 b1 b2 b3
        go_wp2
        go_ret
        exact ⟨rfl, (Only.refl _ _).drewN _⟩
    · have HE : Hid (((s.size : Int) != (5 : Int) + (17 : Int) * (s[3].toNat : Int)) = decide True) := by rw [Hid, decide_true, bne_iff_ne, HB3.out]; omega
      clear a2
      go_enter Tryz.func107, Tryz.ntmps107
      go_wp2_with fail
      have b1 : decide ((s.size : Int) < 5) = false := decide_eq_false (by omega)
      have k1 := K1.out
      have k2 := K2.out
      have k3 := K3.out
      have b2 := HE.out
      go_quiet (fail)
      clear k1 k2 k3 b1 b2
      go_wp2
      go_ret
      exact ⟨rfl, (Only.refl _ _).drewN _⟩
end Go.Proofs.YtfcepnhknmbaaaaGreat

/- The contract of the document's first: bytes of form 1, the head being so. -/
namespace Go.Proofs.YtfcepnhknmbaaaaGreat
open Go.RowKit Go.Deep

theorem GNew.base {w0 w1 w : World} {G : RG} {Wd : Nat → Nat → Int} (o : Only Nob w0 w1) (h : GNew w1 w G Wd) : GNew w0 w G Wd :=
  ⟨h.lie, o.trans h.o, Nat.le_trans o.size h.lo, fun p b hp e => ⟨Nat.le_trans o.size (h.plo p b hp e).1, (h.plo p b hp e).2⟩, h.inj⟩
theorem gst0_drew (w : World) (n : Nat) (r : Int) : GNew w ((w.drewN n).alloc (.cells (rootedCells Tryz.zeroCells80 r) 80)) (gst0 r w.heap.size) (fun _ _ => 0) := GNew.base ((Only.refl Nob w).drewN n) (gst0_new (w.drewN n) r _)

theorem lW_ext (s : ByteArray) {i X Y : Nat} (hX : X = lAt false 3 i + 1) (hY : Y = lAt false 3 i + 17) : ∀ k, k < 8 → wordAt true (nats (s.extract X Y)) 0 k = lW (nats s) false 3 i k := fun k hk => word_ext s true hX hY k hk

/-- What a reading hands back: a new guest where 'ok' is so; else none. -/
def ReadG (w : World) (e : Ending) (w' : World) (ok : Prop) (P : Pic) : Prop := (ok → ∃ G Wd, e = .returned (pt G.gb) ∧ GNew w w' G Wd ∧ GPic G Wd P) ∧ (¬ ok → e = .returned (.pointer none) ∧ Only Nob w w')
theorem ReadG.yes {w w' : World} {e : Ending} {ok : Prop} {P : Pic} {G : RG} {Wd : Nat → Nat → Int} (h : ok) (he : e = .returned (pt G.gb)) (h1 : GNew w w' G Wd) (h2 : GPic G Wd P) : ReadG w e w' ok P := ⟨fun _ => ⟨G, Wd, he, h1, h2⟩, fun q => (q h).elim⟩
theorem ReadG.no {w w' : World} {e : Ending} {ok : Prop} {P : Pic} (h : ¬ ok) (he : e = .returned (.pointer none)) (o : Only Nob w w') : ReadG w e w' ok P := ⟨fun q => (h q).elim, fun _ => ⟨he, o⟩⟩

/-- What is so behind i pages. -/
def Rel1 (w wr : World) (g0 : Nat) (r : Int) (l : List Nat) (fl : Bool) (h i : Nat) : Prop := lOk l fl h i ∧ ∃ G Wd, G.gb = g0 ∧ GNew w wr G Wd ∧ GPic G Wd (lPic r l fl h i)

theorem Rel1.next {w wr w5 : World} {g0 : Nat} {r : Int} {l : List Nat} {fl : Bool} {h i : Nat} (hR : Rel1 w wr g0 r l fl h i) (ok : lOk l fl h (i + 1)) (o : Only Nob wr w5) {nb : Nat} {t : TypeId} {j : Int} {f : Nat → Int} (hn : wr.heap.size ≤ nb) (r5 : w5.rowIs nb t 9 (pgC j f)) (hf : ∀ k, k < 8 → f k = lW l fl h i k) :
    Rel1 w ((w5.setCell ⟨g0, 2 + lN l fl h i * 2, none⟩ (pt nb)).setCell ⟨g0, 2 + lN l fl h i * 2 + 1, none⟩ (.bool (lWr l fl h i))) g0 r l fl h (i + 1) := by
  obtain ⟨_, G, Wd, rfl, hG, hP⟩ := hR
  refine ⟨ok, _, _, ?_, hG.put o hn r5, hP.puts (fun q x hq e => ?_) ok.2.2.1 hf rfl⟩
  · rfl
  · have := hG.lie.pageLt hq e
    omega
theorem Rel1.cells {w wr : World} {g0 : Nat} {r : Int} {l : List Nat} {fl : Bool} {h i : Nat} (hR : Rel1 w wr g0 r l fl h i) {w5 : World} (o : Only Nob wr w5) {p : Nat} (hp : p < 64) : (∃ v, w5.cell? ⟨g0, 2 + p * 2, none⟩ = some v) ∧ (∃ v, w5.cell? ⟨g0, 2 + p * 2 + 1, none⟩ = some v) ∧ ∀ j, w5.frozen? ⟨g0, j, none⟩ = false := by
  obtain ⟨_, G, Wd, rfl, hG, hP⟩ := hR
  obtain ⟨t, r⟩ := (hG.nob o).lie.row
  exact ⟨⟨_, r.cell (by omega)⟩, ⟨_, r.cell (by omega)⟩, r.frozen⟩
theorem Rel1.o {w wr : World} {g0 : Nat} {r : Int} {l : List Nat} {fl : Bool} {h i : Nat} (hR : Rel1 w wr g0 r l fl h i) : Only Nob w wr := by
  obtain ⟨_, G, Wd, rfl, hG, hP⟩ := hR
  exact hG.o

set_option maxRecDepth 100000 in
set_option maxHeartbeats 4000000 in
theorem firstGood_any (w : World) (s : ByteArray) (hh : Head1 s) :
    Calls Tryz.prog 107 #[.string s] w fun e w' => ReadG w e w' (lOk (nats s) false 3 (bt (nats s) 3)) (lPic (-1) (nats s) false 3 (bt (nats s) 3)) := by
  have hnl := nats_len s
  obtain ⟨a2, a3, a4⟩ := hh
  have hi3 : 3 < s.size := by omega
  have HB3 := hid (nats_bt hi3)
  have c3 := bytes_bt (nats_bys s) 3
  have c3a : (s[3].toNat : Int) < 256 := by rw [HB3.out]; omega
  have c3b : (0 : Int) ≤ (s[3].toNat : Int) := by omega
  have i3 : (3 : Int) < (s.size : Int) := by omega
  have K1 : Hid (IntKind.i64.wrap (s[3].toNat : Int) = (s[3].toNat : Int)) := IntWalk.i64_in _ (by omega)
  have K2 : Hid (IntKind.i64.wrap ((17 : Int) * (s[3].toNat : Int)) = (17 : Int) * (s[3].toNat : Int)) := IntWalk.i64_in _ (by omega)
  have K3 : Hid (IntKind.i64.wrap ((5 : Int) + (17 : Int) * (s[3].toNat : Int)) = (5 : Int) + (17 : Int) * (s[3].toNat : Int)) := IntWalk.i64_in _ (by omega)
  have HE : Hid (((s.size : Int) != (5 : Int) + (17 : Int) * (s[3].toNat : Int)) = decide False) := by rw [Hid, decide_false, bne_eq_false_iff_eq, HB3.out]; omega
  have HE3 : Hid (decide ((64 : Int) < (s[3].toNat : Int)) = false) := decide_eq_false (by rw [HB3.out]; omega)
  obtain ⟨m, hm⟩ : ∃ m, s.size = m + 1 := ⟨s.size - 1, by omega⟩
  have HM := hid hm
  have hlm : m < s.size := by omega
  have HBL := hid (nats_bt hlm)
  have cl := bytes_bt (nats_bys s) m
  have HES : Hid ((((nats (s.extract 0 m)).sum : Nat) : Int) % 256 = (s[m].toNat : Int)) := by
    rw [Hid, HBL.out, nats_extract, List.drop_zero, Nat.sub_zero]
    rw [show s.size - 1 = m by omega] at a4
    omega
  have HZ : Hid ((s.extract 0 m).size ≤ 100000) := by rw [Hid, ByteArray.size_extract]; omega
  have K4 : Hid (IntKind.i64.wrap ((s.size : Int) - (1 : Int)) = (m : Int)) := by rw [Hid, IntWalk.i64_in _ (by omega)]; omega
  have K7 : Hid (IntKind.i64.wrap (s[m].toNat : Int) = (s[m].toNat : Int)) := IntWalk.i64_in _ (by rw [HBL.out]; omega)
  have im1 : (m : Int) < (s.size : Int) := by omega
  have im2 : (m : Int) ≤ (s.size : Int) := by omega
  have im3 : (0 : Int) ≤ (m : Int) := by omega
  have HSM : Hid (∀ wz : World, Calls Tryz.prog 124 #[.string (s.extract 0 m)] wz fun e w' => e = .returned (.int .i64 (((nats (s.extract 0 m)).sum : Nat) : Int)) ∧ w' = wz) := fun wz => (rsum_any wz (s.extract 0 m) HZ.out).mono (fun _ _ h => ⟨h.1, h.2.symm⟩)
  have hx0 : (0 : Int) ≤ (((nats (s.extract 0 m)).sum : Nat) : Int) := by omega
  have HA2 := hid a2
  have ha2 : s.size ≤ 5 + 17 * 64 := by omega
  clear a2 hm a4
  generalize hX : (((nats (s.extract 0 m)).sum : Nat) : Int) = X at *
  generalize hC : bt (nats s) 3 = C at *
  generalize hl : nats s = l at *
  have HL := hid hl
  clear hl
  go_enter Tryz.func107, Tryz.ntmps107
  go_wp2_with fail
  have b1 : decide ((s.size : Int) < 5) = false := decide_eq_false (by have := HA2.out; omega)
  have k1 := K1.out
  have k2 := K2.out
  have k3 := K3.out
  have b2 := HE.out
  have b3 := HE3.out
  have k4 := K4.out
  have k7 := K7.out
  have jm1 : (m : Int) < (s.size : Int) := by have := HM.out; omega
  have jm2 : (m : Int) ≤ (s.size : Int) := by omega
  have jm3 : (0 : Int) ≤ (m : Int) := by omega
  go_quiet (first | (go_at_call 124; refine Calls.quiet_of_same (HSM.out _)))
  clear k1 k2 k3 b1 b2 b3 k4 k7
  rw [HES.out, bne_self_eq_false]
  have H0 : Hid (∀ n, Rel1 w ((w.drewN n).alloc (.cells (rootedCells Tryz.zeroCells80 (-1)) 80)) w.heap.size (-1) l false 3 0) := fun n => ⟨trivial, _, _, rfl, gst0_drew w n (-1), gst0_pic _ _ _⟩
  go_wp2_with fail
  go_loopw [4, 5] (fun s4 s5 wr => ∃ i : Nat, i ≤ C ∧ s5 = .int .i64 (4 + i * 17 : Nat) ∧ s4 = .int .i64 ((lLeast l false 3 i : Int) - 1) ∧ Rel1 w wr w.heap.size (-1) l false 3 i) (fun _ s5 _ => (4 + C * 17 - intOf s5).toNat)
  case atStart => exact ⟨0, by omega, by go_num, by go_num, H0.out _⟩
  case round =>
    clear H0
    rename World => wr
    obtain ⟨i, hi, rfl, rfl, hR⟩ := hrel
    have HR := hid hR
    have hlb := lOk_least hR.1
    clear hR
    obtain ⟨a, ha⟩ : ∃ a, 4 + i * 17 = a := ⟨_, rfl⟩
    have HA := hid ha
    rw [ha]
    have hls : a ≤ 100000 := by have := HA2.out; omega
    by_cases hlt : i < C
    · have ia : a < s.size := by have := HA2.out; omega
      have HB := hid (nats_bt ia)
      have cb := bytes_bt (nats_bys s) a
      have hN : s[a].toNat = lN l false 3 i := by
        have e := HB.out
        rw [HL.out] at e
        have e2 : s[a].toNat = bt l a := by omega
        rw [e2, ← ha]
        show _ = bt l (lAt false 3 i)
        rw [show lAt false 3 i = 4 + i * 17 by simp [lAt, lE_false]]
      have hnb : lN l false 3 i < 256 := by rw [← hN]; have := HB.out; omega
      have hj1 : (a : Int) < (s.size : Int) - 1 := by have := HA2.out; omega
      have hj2 : (a : Int) < (s.size : Int) := by omega
      have hz2 : (a : Int) + 17 ≤ (s.size : Int) := by have := HA2.out; omega
      have hz3 : (0 : Int) ≤ (a : Int) := by omega
      by_cases hok : lLeast l false 3 i ≤ lN l false 3 i ∧ lN l false 3 i < 64
      · obtain ⟨ok1, ok2⟩ := hok
        have HOK : Hid (lOk l false 3 (i + 1)) := ⟨HR.out.1, ok1, ok2, fun q => by cases q⟩
        have hLL : Hid (lLeast l false 3 (i + 1) = lN l false 3 i + 1) := rfl
        have HLW : Hid (∀ X Y, X = a + 1 → Y = a + 17 → ∀ k, k < 8 → wordAt true (nats (s.extract X Y)) 0 k = lW l false 3 i k) := fun X Y hX hY => by
          rw [← HL.out]
          exact lW_ext s (by rw [hX, ← ha]; simp [lAt, lE_false]) (by rw [hY, ← ha]; simp [lAt, lE_false])
        clear ha
        generalize hNN : lN l false 3 i = N at *
        generalize lLeast l false 3 i = L at *
        have hq1 : ¬ (N : Int) ≤ (L : Int) - 1 := by omega
        have hq2 : ¬ (64 : Int) ≤ (N : Int) := by omega
        have hq3 : (N : Int) < 64 := by omega
        go_wp2_with fail
        have g1 : IntKind.i64.wrap ((a : Int) + (1 : Int)) = (a : Int) + (1 : Int) := IntWalk.i64_in _ (by omega)
        have g2 : IntKind.i64.wrap ((a : Int) + (17 : Int)) = (a : Int) + (17 : Int) := IntWalk.i64_in _ (by omega)
        have f1 : (0 : Int) ≤ (a : Int) + (1 : Int) := by omega
        have f2 : (a : Int) + (1 : Int) ≤ (a : Int) + (17 : Int) := by omega
        have f3 : (a : Int) + (17 : Int) ≤ (s.size : Int) := by omega
        have f4 : ((a : Int) + (1 : Int)).toNat = a + 1 := by omega
        have f5 : ((a : Int) + (17 : Int)).toNat = a + 17 := by omega
        go_region_with (go_at_call 125; refine (page_any _ _ true (by rw [ByteArray.size_extract]; omega)).mono ?_; rintro e w5 ⟨rfl, ⟨t5, r5⟩, o5⟩; obtain ⟨⟨v1, z1⟩, ⟨v2, z2⟩, zf⟩ := HR.out.cells (w5 := w5) (((Only.refl Nob wr).drew).trans o5) ok2)
        all_goals
          have HX := hid (HR.out.next HOK.out (((Only.refl Nob wr).drew).trans o5) (Nat.le_refl _) r5 (HLW.out _ _ (by omega) (by omega)))
          rw [hNN, show lWr l false 3 i = true from rfl] at HX
          clear z1 z2 zf r5 o5
          go_wp2_with fail
          go_roundw
          case rel => exact ⟨i + 1, by omega, by have := HA.out; go_num, by rw [hLL.out]; go_num, HX.out⟩
          case measure => have := HA.out; simp [intOf]; omega
      · have HNO : Hid (¬ lOk l false 3 C) := fun q => hok ⟨(lOk_le (show i + 1 ≤ C by omega) q).2.1, (lOk_le (show i + 1 ≤ C by omega) q).2.2.1⟩
        have HO := hid HR.out.o
        clear ha
        generalize lN l false 3 i = N at *
        generalize lLeast l false 3 i = L at *
        by_cases hq1 : (N : Int) ≤ (L : Int) - 1
        · go_wp2_with fail
          go_ret
          exact ReadG.no HNO.out rfl HO.out
        · have hq2 : (64 : Int) ≤ (N : Int) := by omega
          go_wp2_with fail
          go_ret
          exact ReadG.no HNO.out rfl HO.out
    · have hiC : i = C := by omega
      subst hiC
      have hj1 : ¬ (a : Int) < (s.size : Int) - 1 := by have := HA2.out; omega
      clear ha
      go_wp2_with fail
      go_ret
      obtain ⟨q1, G, Wd, q2, q3, q4⟩ := HR.out
      exact ReadG.yes q1 (by rw [q2]; rfl) q3 q4
end Go.Proofs.YtfcepnhknmbaaaaGreat
