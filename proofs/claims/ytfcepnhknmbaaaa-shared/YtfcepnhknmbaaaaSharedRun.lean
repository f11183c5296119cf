/- The law Shared, walked. -/
import Derived.Test.YtfcepnhknmbaaaaSharedWalk
namespace Go.Proofs.Ytfcepnhknmbaaaa
open Go.RowKit Go.Deep

theorem init_chk {A : Abs} {fr n : Nat} (h : Init A fr n) {g : Int} (h1 : 1 ≤ g) (h2 : g ≤ n) {b : Bool} (hb : b = true) : A.check g b = 0 := by
  simp [Abs.check, h.has, h1, h2, hb]

theorem isPg_of {p : Int} (h0 : 0 ≤ p) (h1 : p < 64) : isPg p = true := by simp [isPg, h0, h1]
theorem isAd_of {p : Int} (h0 : 0 ≤ p) (h1 : p < 512) : isAd p = true := by simp [isAd, h0, h1]

theorem sh_map {A : Abs} (h : Init A 16 2) {p : Int} (h0 : 0 ≤ p) (h1 : p < 64) : A.mapCode 1 p = 0 := by
  have hc : A.check 1 (isPg p) = 0 := init_chk h (by omega) (by omega) (isPg_of h0 h1)
  have hf := h.free
  have hn : A.need 1 p.toNat = 2 := by simp [Abs.need, grp_none (h.pg 1)]
  rw [Abs.mapCode, if_neg (by rw [hc]; simp), h.pg, hn]
  simp
  omega

theorem sh_share {A : Abs} {f : Nat} {b : Bool} (h : Init A 16 2) {p q : Int} (h0 : 0 ≤ p) (h1 : p < 64) (h2 : 0 ≤ q) (h3 : q < 64) : (A.mapped 1 p.toNat f true).shareCode 1 p 2 q b = 0 ∧ ∀ fr wb, (A.mapped 1 p.toNat f true).pg 1 p.toNat = some (fr, wb) → fr = f := by
  have hpg : ∀ g p', (A.mapped 1 p.toNat f true).pg g p' = if g = 1 ∧ p' = p.toNat then some (f, true) else A.pg g p' := fun _ _ => rfl
  have hf := h.free
  have hn : A.need 1 p.toNat = 2 := by simp [Abs.need, grp_none (h.pg 1)]
  have hfr : (A.mapped 1 p.toNat f true).free = 12 := by show A.free - A.need 1 p.toNat = 12; rw [hn]; omega
  have hh : (A.mapped 1 p.toNat f true).has = A.has := rfl
  have hc : (A.mapped 1 p.toNat f true).check 1 (isPg p && isPg q) = 0 := by
    rw [isPg_of h0 h1, isPg_of h2 h3]
    simp [Abs.check, hh, h.has]
  have h11 : (A.mapped 1 p.toNat f true).pg 1 p.toNat = some (f, true) := by rw [hpg, if_pos ⟨rfl, rfl⟩]
  have h22 : (A.mapped 1 p.toNat f true).pg 2 q.toNat = none := by rw [hpg, if_neg (fun e => absurd e.1 (by decide)), h.pg]
  constructor
  · have hnd : (A.mapped 1 p.toNat f true).need1 2 q.toNat ≤ 1 := by rw [Abs.need1]; split <;> omega
    have h2h : (A.mapped 1 p.toNat f true).has 2 = true := by rw [hh, h.has]; rfl
    rw [Abs.shareCode, if_neg (by rw [h2h]; simp), if_neg (by rw [hc]; simp), h11, h22, hfr]
    simp
    omega
  · intro fr wb e
    rw [h11] at e
    injection e with e
    injection e with e _
    exact e.symm

theorem sh_of {A : Abs} {f : Nat} {b : Bool} (h : Init A 16 2) {p q : Nat} : Sh ((A.mapped 1 p f true).shared 2 q f b) p q f b ∧ ∀ k, ((A.mapped 1 p f true).shared 2 q f b).wd f k = 0 := by
  have hpg : ∀ g p', ((A.mapped 1 p f true).shared 2 q f b).pg g p' = if g = 2 ∧ p' = q then some (f, b) else if g = 1 ∧ p' = p then some (f, true) else A.pg g p' := fun _ _ => rfl
  refine ⟨⟨h.an, h.has, ?_, ?_, ?_, ?_, ?_, ?_⟩, fun k => ?_⟩
  · rw [hpg, if_neg (fun e => absurd e.1 (by decide)), if_pos ⟨rfl, rfl⟩]
  · rw [hpg, if_pos ⟨rfl, rfl⟩]
  · intro p' e
    rw [hpg, if_neg (fun e => absurd e.1 (by decide)), if_neg (fun q => e q.2), h.pg]
  · intro p' e
    rw [hpg, if_neg (fun q => e q.2), if_neg (fun e => absurd e.1 (by decide)), h.pg]
  · intro g p' e1 e2
    rw [hpg, if_neg (fun q => e2 q.1), if_neg (fun q => e1 q.1), h.pg]
  · have := h.kn
    show A.kn + 1 + 2 ≤ 30
    omega
  · show (if f = f then (0 : Int) else A.wd f k) = 0
    rw [if_pos rfl]

theorem Sh.mem {A A' : Abs} {p q f : Nat} {b : Bool} (s : Sh A p q f b) (h1 : A'.n = A.n) (h2 : A'.has = A.has) (h3 : A'.pg = A.pg) (h4 : A'.kn ≤ 30) : Sh A' p q f b :=
  ⟨by rw [h1]; exact s.n, by rw [h2]; exact s.has, by rw [h3]; exact s.one, by rw [h3]; exact s.two, by rw [h3]; exact s.non1, by rw [h3]; exact s.non2, by rw [h3]; exact s.non, h4⟩

theorem Sh.write {A : Abs} {p q f : Nat} {b : Bool} (s : Sh A p q f b) {g a v : Int} (hg : g = 1 ∧ a.toNat / 8 = p ∨ g = 2 ∧ a.toNat / 8 = q) (h0 : 0 ≤ a) (h1 : a < 512) (hv0 : 0 ≤ v) (hv1 : v < 65536) :
    A.writeCode g a v = (if g = 1 ∨ b = true then 0 else 8) ∧ ∀ f' b', A.pg g (a.toNat / 8) = some (f', b') → f' = f := by
  have hc : A.check g (isAd a) = 0 := by
    have : 1 ≤ g ∧ g ≤ 2 := by omega
    simp [Abs.check, s.has, this, isAd_of h0 h1]
  have hv : ¬ (v < 0 ∨ 65535 < v) := by omega
  rw [Abs.writeCode, if_neg (by rw [hc]; simp), if_neg hv]
  rcases hg with ⟨rfl, e⟩ | ⟨rfl, e⟩
  · rw [e, s.one]
    exact ⟨by simp, fun f' b' e => by injection e with e; injection e with e _; exact e.symm⟩
  · rw [e, s.two]
    refine ⟨?_, fun f' b' e => by injection e with e; injection e with e _; exact e.symm⟩
    simp

theorem Sh.read {A : Abs} {p q f : Nat} {b : Bool} (s : Sh A p q f b) {g a : Int} (hg : g = 1 ∧ a.toNat / 8 = p ∨ g = 2 ∧ a.toNat / 8 = q) (h0 : 0 ≤ a) (h1 : a < 512) : A.readAt g a = (A.wd f (a.toNat % 8), 0) := by
  have hc : A.check g (isAd a) = 0 := by
    have : 1 ≤ g ∧ g ≤ 2 := by omega
    simp [Abs.check, s.has, this, isAd_of h0 h1]
  rw [Abs.readAt, if_neg (by rw [hc]; simp)]
  rcases hg with ⟨rfl, e⟩ | ⟨rfl, e⟩
  · rw [e, s.one]
  · rw [e, s.two]

theorem kn_small {A : Abs} (h : A.kn ≤ 90) : A.kn < maxLen := by unfold maxLen; omega
theorem kn_small2 {A : Abs} (h : A.kn ≤ 90) : A.kn + 3 < maxLen := by unfold maxLen; omega

/-- What the law holds of its machine, behind the first writes. -/
structure ShR (w0 w : World) (mb : Nat) (A : Abs) (p q f : Nat) (b : Bool) (x3 x4 : Int) : Prop where
  r : RunX (fun b => b < w0.heap.size) w mb A
  k : Keeps (fun b => b < w0.heap.size) w0 w
  s : Sh A p q f b
  w3 : A.wd f 3 = x3
  w4 : A.wd f 4 = x4
  kn : A.kn ≤ 25

theorem ShR.read {w0 w : World} {mb : Nat} {A : Abs} {p q f : Nat} {b : Bool} {x3 x4 : Int} (h : ShR w0 w mb A p q f b x3 x4) {g a : Int} (hg : g = 1 ∧ a.toNat / 8 = p ∨ g = 2 ∧ a.toNat / 8 = q) (h0 : 0 ≤ a) (h1 : a < 512) (ha : a.toNat % 8 = 3 ∨ a.toNat % 8 = 4) (hk : A.kn ≤ 24) :
    Calls Try.prog 18 #[pt mb, .int .i64 g, .int .i64 a] w fun e w' => ∃ A', e = .returned (.tuple #[.int .i64 (if a.toNat % 8 = 3 then x3 else x4), .int .i64 0]) ∧ ShR w0 w' mb A' p q f b x3 x4 ∧ A'.kn ≤ A.kn + 1 := by
  have hrd := h.s.read hg h0 h1
  refine (xRead h.r g a ⟨by omega, by omega⟩ (kn_small (by omega))).mono ?_
  rintro e w' ⟨A', rfl, hr, hk', hA'⟩
  rw [hrd]
  refine ⟨A', ?_, ?_⟩
  · rcases ha with e | e
    · rw [e, h.w3]; rfl
    · rw [e, h.w4]; rfl
  · rcases hA' with rfl | rfl
    · exact ⟨⟨hr, h.k.trans hk', h.s, h.w3, h.w4, h.kn⟩, by omega⟩
    · exact ⟨⟨hr, h.k.trans hk', h.s.mem rfl rfl rfl (by show A.kn + 1 ≤ 30; omega), h.w3, h.w4, by show A.kn + 1 ≤ 25; omega⟩, by show A.kn + 1 ≤ A.kn + 1; omega⟩

theorem ShR.write {w0 w : World} {mb : Nat} {A : Abs} {p q f : Nat} {b : Bool} {x3 x4 : Int} (h : ShR w0 w mb A p q f b x3 x4) {g a v : Int} (hg : g = 1 ∧ a.toNat / 8 = p ∨ g = 2 ∧ a.toNat / 8 = q) (h0 : 0 ≤ a) (h1 : a < 512) (ha : a.toNat % 8 = 3 ∨ a.toNat % 8 = 4) (hv0 : 0 ≤ v) (hv1 : v < 65536) (hk : A.kn ≤ 24) :
    Calls Try.prog 17 #[pt mb, .int .i64 g, .int .i64 a, .int .i64 v] w fun e w' => ∃ A', e = .returned (.int .i64 (if g = 1 ∨ b = true then 0 else 8)) ∧ ShR w0 w' mb A' p q f b (if (g = 1 ∨ b = true) ∧ a.toNat % 8 = 3 then v else x3) (if (g = 1 ∨ b = true) ∧ a.toNat % 8 = 4 then v else x4) ∧ A'.kn ≤ A.kn + 1 := by
  obtain ⟨hwc, hpf⟩ := h.s.write hg h0 h1 hv0 hv1
  refine (xWrite h.r g a v ⟨by omega, by omega⟩ (kn_small (by omega))).mono ?_
  rintro e w' ⟨A', rfl, hr, hk', hA', hA2⟩
  rw [hwc] at hA' hA2 ⊢
  by_cases hgb : g = 1 ∨ b = true
  · rw [if_pos hgb] at hA' hA2 ⊢
    obtain ⟨f', b', e1, rfl⟩ := hA' rfl
    have ef := hpf f' b' e1
    subst ef
    refine ⟨_, rfl, ⟨hr, h.k.trans hk', h.s.mem rfl rfl rfl (by show A.kn + 1 ≤ 30; omega), ?_, ?_, by show A.kn + 1 ≤ 25; omega⟩, by show A.kn + 1 ≤ A.kn + 1; omega⟩
    · show (if f' = f' ∧ 3 = a.toNat % 8 then v else A.wd f' 3) = _
      rcases ha with e | e
      · simp [e, hgb]
      · simp [e, hgb, h.w3]
    · show (if f' = f' ∧ 4 = a.toNat % 8 then v else A.wd f' 4) = _
      rcases ha with e | e
      · simp [e, hgb, h.w4]
      · simp [e, hgb]
  · rw [if_neg hgb] at hA' hA2 ⊢
    rw [if_neg (fun q => hgb q.1), if_neg (fun q => hgb q.1)]
    rcases hA2 (by omega) with rfl | rfl
    · exact ⟨_, rfl, ⟨hr, h.k.trans hk', h.s, h.w3, h.w4, h.kn⟩, by omega⟩
    · exact ⟨_, rfl, ⟨hr, h.k.trans hk', h.s.mem rfl rfl rfl (by show A.kn + 1 ≤ 30; omega), h.w3, h.w4, by show A.kn + 1 ≤ 25; omega⟩, by show A.kn + 1 ≤ A.kn + 1; omega⟩

/-- The end: one of both is gone, the other one reads. -/
theorem ShR.ends {w0 w : World} {mb : Nat} {A : Abs} {p q f : Nat} {b : Bool} {x3 x4 : Int} (h : ShR w0 w mb A p q f b x3 x4) (hp : p < 64) (hq : q < 64) {o c : Int} (hoc : (o = 1 ∧ c = 2) ∨ (o = 2 ∧ c = 1)) :
    Calls Try.prog 16 #[pt mb, .int .i64 o] w fun e w' => ∃ A', e = .returned (.int .i64 0) ∧ RunX (fun b => b < w0.heap.size) w' mb A' ∧ Keeps (fun b => b < w0.heap.size) w0 w' ∧ A'.free = 13 ∧ A'.kn ≤ 25 ∧ ∀ a, 0 ≤ a → a < 512 → a.toNat % 8 = 3 → (c = 1 ∧ a.toNat / 8 = p ∨ c = 2 ∧ a.toNat / 8 = q) → A'.readAt c a = (x3, 0) := by
  have hh : A.has o = true := by rw [h.s.has]; simp; omega
  refine (xDestroy h.r o (by rcases hoc with ⟨rfl, _⟩ | ⟨rfl, _⟩ <;> exact in64_lit (by omega) (by omega))).mono ?_
  rintro e w' ⟨A', rfl, hr, hk, hA, _⟩
  rw [hh, if_pos rfl]
  obtain ⟨fr, rfl, _, _⟩ := hA hh
  have hfr := h.s.gone hp hq hoc hr
  subst hfr
  refine ⟨_, rfl, hr, h.k.trans hk, rfl, h.kn, fun a h0 h1 h8 hc => ?_⟩
  have hpg : ∀ g p', (A.destroyed o 13).pg g p' = if g = o then none else A.pg g p' := fun _ _ => rfl
  have hck : (A.destroyed o 13).check c (isAd a) = 0 := by
    have e : (A.destroyed o 13).has c = true := by
      show (if c = o then false else A.has c) = true
      rw [if_neg (by omega), h.s.has]
      simp
      omega
    simp [Abs.check, e, isAd_of h0 h1]
  have hw : (A.destroyed o 13).wd f 3 = x3 := h.w3
  rw [Abs.readAt, if_neg (by rw [hck]; simp), hpg, if_neg (by omega), h8]
  rcases hc with ⟨rfl, e⟩ | ⟨rfl, e⟩
  · rw [e, h.s.one]
    simp only [hw]
  · rw [e, h.s.two]
    simp only [hw]

set_option maxRecDepth 100000 in
set_option maxHeartbeats 4000000 in
theorem shared_walk (a0 a1 a2 : Int) (back first : Bool) (w : World) (h0 : In64 a0) (h1 : In64 a1) (h2 : In64 a2) :
    Calls Try.prog 6 #[.int .i64 a0, .int .i64 a1, .int .i64 a2, .bool back, .bool first] w fun e w' => e = .returned (.bool true) ∧ Below w.heap.size w w' := by
  have hp := pickI_bd a0 64 (by omega)
  have hq := pickI_bd a1 64 (by omega)
  have hv := pickI_bd a2 65536 (by omega)
  go_enter Try.func6, Try.ntmps6
  go_wp2_with fail
  refine (machine_any _ 16 2 (by omega) (by omega) (by omega) (by omega) (by omega)).mono ?_
  rintro e w1 ⟨mb, A0, rfl, hR0, hI0⟩
  obtain ⟨hX0, hK0⟩ := RunX.of_run hR0
  have hI0 : Init A0 16 2 := hI0
  clear hR0
  go_wp2_with fail
  refine (pick_any _ a0 64 h0.1 h0.2 (by omega) (by omega)).mono ?_
  rintro e w2 ⟨rfl, rfl⟩
  clear h0
  generalize pickI a0 64 = p at *
  go_wp2_with fail
  refine (pick_any _ a1 64 h1.1 h1.2 (by omega) (by omega)).mono ?_
  rintro e w2 ⟨rfl, rfl⟩
  clear h1
  generalize pickI a1 64 = q at *
  go_wp2_with fail
  refine (pick_any _ a2 65536 h2.1 h2.2 (by omega) (by omega)).mono ?_
  rintro e w2 ⟨rfl, rfl⟩
  clear h2
  generalize pickI a2 65536 = v at *
  have HC1 := hid (sh_map hI0 hp.1 hp.2)
  have HK1 := hid (show A0.kn < maxLen from kn_small (by have := hI0.kn; omega))
  go_wp2_with fail
  refine (xMap hX0 1 p true (in64_lit (by omega) (by omega)) HK1.out).mono ?_
  rintro e w2 ⟨A1, rfl, hX1, hK1, hA1, _⟩
  obtain ⟨f, _, rfl⟩ := hA1 HC1.out
  rw [HC1.out]
  have HC2 := hid (sh_share (f := f) (b := back) hI0 hp.1 hp.2 hq.1 hq.2)
  have HK2 := hid (show (A0.mapped 1 p.toNat f true).kn + 2 < maxLen by have := hI0.kn; unfold maxLen; show A0.kn + 1 + 2 < _; omega)
  clear hA1
  go_wp2_with fail
  refine (xShare hX1 1 p 2 q back (in64_lit (by omega) (by omega)) (in64_lit (by omega) (by omega)) HK2.out).mono ?_
  rintro e w3 ⟨A2, rfl, hX2, hK2, hA2, _⟩
  obtain ⟨fr, wb, e1, rfl⟩ := hA2 HC2.out.1
  have e2 := HC2.out.2 fr wb e1
  subst e2
  rw [HC2.out.1]
  obtain ⟨hs, hz⟩ := sh_of (f := fr) (b := back) hI0 (p := p.toNat) (q := q.toNat)
  have hS2 : ShR w w3 mb _ p.toNat q.toNat fr back 0 0 := ⟨hX2, (hK0.trans hK1).trans hK2, hs, hz 3, hz 4, by have := hI0.kn; show A0.kn + 1 + 2 ≤ 25; omega⟩
  have hkn : ((A0.mapped 1 p.toNat fr true).shared 2 q.toNat fr back).kn ≤ 13 := by have := hI0.kn; show A0.kn + 1 + 2 ≤ 13; omega
  generalize (A0.mapped 1 p.toNat fr true).shared 2 q.toNat fr back = A2 at *
  clear hA2 hs hz e1 HC2 HK2 hX2 hK2 hX1 hK1 HC1 HK1 hX0 hK0 hI0
  have HS2 := hid hS2
  have HKN := hid hkn
  clear hS2 hkn
  go_wp2_with fail
  refine (HS2.out.write (g := 1) (a := 8 * p + 3) (v := v) (by omega) (by omega) (by omega) (by omega) (by omega) (by omega) (by have := HKN.out; omega)).mono ?_
  rintro e w4 ⟨A4, rfl, hS4, hk4⟩
  have HS4 : Hid (ShR w w4 mb A4 p.toNat q.toNat fr back v 0) := by
    have e1 : (8 * p + 3).toNat % 8 = 3 := by omega
    simpa [Hid, e1] using hS4
  rw [if_pos (Or.inl rfl)]
  clear hS4
  go_wp2_with fail
  refine (HS4.out.read (g := 2) (a := 8 * q + 3) (by omega) (by omega) (by omega) (by omega) (by have := HKN.out; omega)).mono ?_
  rintro e w5 ⟨A5, rfl, hS5, hk5⟩
  have HS5 := hid hS5
  clear hS5
  have HE5 : Hid ((if (8 * q + 3).toNat % 8 = 3 then v else 0) = v) := by rw [Hid, if_pos (by omega)]
  rw [HE5.out]
  go_wp2_with fail
  refine (HS5.out.write (g := 2) (a := 8 * q + 4) (v := v) (by omega) (by omega) (by omega) (by omega) (by omega) (by omega) (by have := HKN.out; omega)).mono ?_
  rintro e w6 ⟨A6, rfl, hS6, hk6⟩
  obtain ⟨x4, hx4⟩ : ∃ x4, x4 = (if back = true then v else 0) := ⟨_, rfl⟩
  have HS6 : Hid (ShR w w6 mb A6 p.toNat q.toNat fr back v x4) := by
    have e1 : (8 * q + 4).toNat % 8 = 4 := by omega
    rw [hx4]
    simpa [Hid, e1] using hS6
  have HX4 := hid hx4
  clear hS6 hx4
  generalize hc17 : (if (2 : Int) = 1 ∨ back = true then (0 : Int) else 8) = c17
  have HC17 := hid hc17
  clear hc17
  go_wp2_with fail
  refine (HS6.out.read (g := 1) (a := 8 * p + 4) (by omega) (by omega) (by omega) (by omega) (by have := HKN.out; omega)).mono ?_
  rintro e w7 ⟨A7, rfl, hS7, hk7⟩
  have HS7 := hid hS7
  have HE7 : Hid ((if (8 * p + 4).toNat % 8 = 3 then v else x4) = x4) := by rw [Hid, if_neg (by omega)]
  rw [HE7.out]
  have HF7 := hid (hS7.s.free hS7.r (by omega) (by omega))
  clear hS7
  go_upto_region 13 with fail
  go_cut [123] (fun s wx => s = .bool false ∧ wx = w7)
  case first =>
    cases back with
    | false =>
      have e1 : c17 = 8 := by rw [← HC17.out]; rfl
      have e2 : x4 = 0 := by rw [HX4.out]; rfl
      subst e1 e2
      go_wp2_with fail
      go_meet
      case rel => exact ⟨rfl, rfl⟩
    | true =>
      have e1 : c17 = 0 := by rw [← HC17.out]; rfl
      have e2 : x4 = v := by rw [HX4.out]; rfl
      subst e1 e2
      go_wp2_with fail
      go_meet
      case rel => exact ⟨rfl, rfl⟩
  case rest =>
    obtain ⟨rfl, rfl⟩ := hcut
    go_upto_if 126 with (go_at_call 15; refine (xFree HS7.out.r).mono ?_; rintro e w' ⟨rfl, rfl⟩; rw [HF7.out])
    cases first with
    | false =>
      go_wp2_with fail
      refine (HS7.out.ends (o := 1) (c := 2) (by omega) (by omega) (by omega)).mono ?_
      rintro e w8 ⟨A8, rfl, hX8, hK8, hf8, hn8, hrd⟩
      have HX8 := hid hX8
      have HF8 := hid hf8
      have HRD := hid (hrd (8 * q + 3) (by omega) (by omega) (by omega) (by omega))
      have HN8 := hid (kn_small (A := A8) (by omega))
      clear hX8 hf8 hrd
      go_wp2_with (first | (go_at_call 15; refine (xFree HX8.out).mono ?_; rintro e w' ⟨rfl, rfl⟩; rw [HF8.out]) | (go_at_call 18; refine (xRead HX8.out 2 (8 * q + 3) (in64_lit (by omega) (by omega)) HN8.out).mono ?_; rintro e w9 ⟨A9, rfl, hX9, hK9, _⟩; rw [HRD.out]))
      go_ret
      exact ⟨rfl, (hK8.trans hK9).below (fun b hb => hb)⟩
    | true =>
      go_wp2_with fail
      refine (HS7.out.ends (o := 2) (c := 1) (by omega) (by omega) (by omega)).mono ?_
      rintro e w8 ⟨A8, rfl, hX8, hK8, hf8, hn8, hrd⟩
      have HX8 := hid hX8
      have HF8 := hid hf8
      have HRD := hid (hrd (8 * p + 3) (by omega) (by omega) (by omega) (by omega))
      have HN8 := hid (kn_small (A := A8) (by omega))
      clear hX8 hf8 hrd
      go_wp2_with (first | (go_at_call 15; refine (xFree HX8.out).mono ?_; rintro e w' ⟨rfl, rfl⟩; rw [HF8.out]) | (go_at_call 18; refine (xRead HX8.out 1 (8 * p + 3) (in64_lit (by omega) (by omega)) HN8.out).mono ?_; rintro e w9 ⟨A9, rfl, hX9, hK9, _⟩; rw [HRD.out]))
      go_ret
      exact ⟨rfl, (hK8.trans hK9).below (fun b hb => hb)⟩
end Go.Proofs.Ytfcepnhknmbaaaa
