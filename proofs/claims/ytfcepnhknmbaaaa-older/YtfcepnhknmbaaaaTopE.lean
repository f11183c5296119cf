/- The contracts of Unmap, Read, Write. -/
import Derived.Test.YtfcepnhknmbaaaaTopC
namespace Go.Proofs.Ytfcepnhknmbaaaa
open Go.RowKit Go.Deep
open Go.Maps (Keyed)

set_option maxHeartbeats 400000 in
theorem unmapBad_any (w : World) (mb : Nat) (S : MS) (h : Mach w mb S) (g p : Int) (hg : In64 g) (hb : checkE S g (isPg p) ≠ 0) :
    Calls Try.prog 13 #[pt mb, .int .i64 g, .int .i64 p] w fun e w' => e = .returned (.int .i64 (checkE S g (isPg p))) ∧ Only Nob w w' := by
  have hb' : (checkE S g (isPg p) != 0) = true := by simp [hb]
  clear hb
  go_enter Try.func13, Try.ntmps13
  go_wp2_with fail
  refine (isPage_any _ p).mono ?_
  rintro e w1 ⟨rfl, rfl⟩
  go_wp2_with fail
  refine (check_any _ mb S h g hg _).mono ?_
  rintro e w1 ⟨rfl, ho⟩
  go_wp2_with fail
  go_ret
  exact ⟨rfl, ho⟩

set_option maxHeartbeats 1000000 in
theorem unmapAbsent_any (w : World) (mb : Nat) (S : MS) (h : Mach w mb S) (g p : Int) (r : Nat) (hd : Good S g p r) (hx : pres (S.M.ent r p.toNat) = false) :
    Calls Try.prog 13 #[pt mb, .int .i64 g, .int .i64 p] w fun e w' => ∃ kb kn K, e = .returned (.int .i64 7) ∧ Mach w' mb (S.cached kb kn K) ∧ Goes w.heap.size S kb kn K (g, p) (S.M.ent r p.toNat) ∧ Only (S.own mb) w w' := by
  have hb := ent_bd h.mem r p.toNat
  go_enter Try.func13, Try.ntmps13
  go_wp2_with fail
  refine (isPage_any _ p).mono ?_
  rintro e w1 ⟨rfl, rfl⟩
  go_wp2_with fail
  refine (check_any _ mb S h g hd.g64 _).mono ?_
  rintro e w1 ⟨rfl, ho⟩
  rw [hd.check]
  have h1 := h.nob ho
  go_wp2_with fail
  refine (mwalk_any _ mb S h1 g p r hd.g64 hd.G hd.p0 hd.p1 hd.root hd.tab hd.K hd.kn).mono ?_
  rintro e w2 ⟨kb, kn, K, rfl, h2, hG2, ho2⟩
  go_wp2_with (go_at_call 34; refine (present_any _ _ hb.1 hb.2).mono ?_; rintro e w' ⟨rfl, rfl⟩)
  go_ret
  exact ⟨kb, kn, K, rfl, h2, ⟨fun b hb => (hG2.kb b hb).imp id (fun x => Nat.le_trans ho.size x), hG2.kn, hG2.K⟩, (ho.of_nob (S := S.own mb)).trans ho2⟩

/-- Behind Unmap. -/
def MS.unmapped (S : MS) (i : Int × Int) (M : Mm) : MS := { S with M := M, K := fun j => if j = i then none else S.K j }

theorem put_kept_none (S : MS) (i : Int × Int) : put S.kept i none = fun j => (if j = i then none else S.K j).map (fun x => Value.int .u16 x) := by
  funext j
  simp only [put, MS.kept]
  split <;> rfl

theorem Mach.kb_new {w : World} {mb : Nat} {S : MS} (h : Mach w mb S) {b : Nat} (hb : w.heap.size ≤ b) : S.kb ≠ some b := by
  intro e
  have := h.own_lt (Or.inr (Or.inr (Or.inr (Or.inr e))))
  omega

set_option maxHeartbeats 1000000 in
theorem unmapGood_any (w : World) (mb : Nat) (S : MS) (h : Mach w mb S) (g p : Int) (r : Nat) (hd : Good S g p r) (hS : Sound S.M r p.toNat) (hx : pres (S.M.ent r p.toNat) = true) :
    Calls Try.prog 13 #[pt mb, .int .i64 g, .int .i64 p] w fun e w' => ∃ kb kn K, e = .returned (.int .i64 0) ∧ Mach w' mb ((S.cached kb kn K).unmapped (g, p) (S.M.remove r p.toNat)) ∧ Goes w.heap.size S kb kn K (g, p) (S.M.ent r p.toNat) ∧ Only (S.own mb) w w' := by
  have hb := ent_bd h.mem r p.toNat
  go_enter Try.func13, Try.ntmps13
  go_wp2_with fail
  refine (isPage_any _ p).mono ?_
  rintro e w1 ⟨rfl, rfl⟩
  go_wp2_with fail
  refine (check_any _ mb S h g hd.g64 _).mono ?_
  rintro e w1 ⟨rfl, ho⟩
  rw [hd.check]
  have h1 := h.nob ho
  go_wp2_with fail
  refine (mwalk_any _ mb S h1 g p r hd.g64 hd.G hd.p0 hd.p1 hd.root hd.tab hd.K hd.kn).mono ?_
  rintro e w2 ⟨kb, kn, K, rfl, h2, hG2, ho2⟩
  have c1 : w2.cell? ⟨mb, 1, none⟩ = some (.map (some S.gb)) := h2.c1
  have hgm : MapIs Try.prog 3 kvG w2 S.gb S.cnt S.cnt S.gst := h2.gst
  have hrun := hgm.look (i := g) law3 Try.underlying78 (zero77 w2) (key3 hd.g64)
  simp only [MS.gst, hd.G, Option.map_some, Option.getD_some] at hrun
  have hfld := fun w => fld0 w S.mp r (S.Rt g)
  have hG3 : Goes w.heap.size S kb kn K (g, p) (S.M.ent r p.toNat) := ⟨fun b hb => (hG2.kb b hb).imp id (fun x => Nat.le_trans ho.size x), hG2.kn, hG2.K⟩
  have hO2 := (ho.of_nob (S := S.own mb)).trans ho2
  have hm2 : Mem w2 S.mp S.fb S.M := h2.mem
  have hg64 := hd.g64
  have hp0 := hd.p0
  have hp1 := hd.p1
  have hsz2 := Nat.le_trans ho.size ho2.size
  clear hgm hG2 ho h1 ho2
  go_wp2_with (first | (go_at_call 34; refine (present_any _ _ hb.1 hb.2).mono ?_; rintro e w' ⟨rfl, rfl⟩) | (go_at_call 35; refine (remove_any (mp := S.mp) (fb := S.fb) (M := S.M) _ r p hm2 hp0 hp1 hS).mono ?_; rintro e w3 ⟨rfl, hM3, ho3⟩; have h3 := h2.turnM hM3 ho3; have hO3 := hO2.after ho3 (fun b _ hb => Or.inr (Or.inr (Or.inl hb)))))
  have h4 := h3.nob ((Only.refl Nob w3).alloc (.cells #[.int .i64 g, .int .i64 p] 87))
  have hkn : kb ≠ some w3.heap.size := h3.kb_new (Nat.le_refl _)
  refine (drop_any _ mb 3 w3.heap.size 1 1 kb kn (S.cached kb kn K).kept (fun _ => (g, p)) (fun _ _ => ⟨hg64, ⟨by show _ ≤ p; omega, by show p ≤ _; omega⟩⟩) h4.c3 h4.kpt h4.n4 hkn (by omega) (fun j hj => ?_)).mono ?_
  · have e : j = 0 := by omega
    subst e
    exact ⟨by simp, by simp⟩
  rintro e w5 ⟨rfl, hk5, ho5⟩
  have hk6 : Kept w5 kb kn (put (S.cached kb kn K).kept (g, p) none) := hk5
  rw [put_kept_none] at hk6
  have h5 := h4.turnK (K' := fun j => if j = (g, p) then none else K j) (n' := kn) hk6 h4.kz ho5
  have hO5 : Only (S.own mb) w w5 := (hO3.alloc _).after ho5 (fun b hb he => (hG3.kb b he).elim (fun x => Or.inr (Or.inr (Or.inr (Or.inr x)))) (fun x => absurd x (by omega)))
  go_wp2
  go_ret
  exact ⟨kb, kn, K, rfl, h5, hG3, hO5⟩

/-- What Read and Write ask of a guest's address. -/
theorem Good.checkA {S : MS} {g a : Int} {r : Nat} (h0 : 0 ≤ a) (h1 : a < 512) (h : Good S g (a / 8) r) : checkE S g (isAd a) = 0 := by
  simp [checkE, h.G, isAd, h0, h1]

set_option maxHeartbeats 400000 in
theorem readBad_any (w : World) (mb : Nat) (S : MS) (h : Mach w mb S) (g a : Int) (hg : In64 g) (hb : checkE S g (isAd a) ≠ 0) :
    Calls Try.prog 18 #[pt mb, .int .i64 g, .int .i64 a] w fun e w' => e = .returned (.tuple #[.int .i64 0, .int .i64 (checkE S g (isAd a))]) ∧ Only Nob w w' := by
  have hb' : (checkE S g (isAd a) != 0) = true := by simp [hb]
  clear hb
  go_enter Try.func18, Try.ntmps18
  go_wp2_with fail
  refine (isAddress_any _ a).mono ?_
  rintro e w1 ⟨rfl, rfl⟩
  go_wp2_with fail
  refine (check_any _ mb S h g hg _).mono ?_
  rintro e w1 ⟨rfl, ho⟩
  go_wp2_with fail
  go_ret2
  exact ⟨rfl, ho⟩

set_option maxHeartbeats 1000000 in
theorem readAbsent_any (w : World) (mb : Nat) (S : MS) (h : Mach w mb S) (g a : Int) (r : Nat) (h0 : 0 ≤ a) (h1 : a < 512) (hd : Good S g (a / 8) r) (hx : pres (S.M.ent r (a / 8).toNat) = false) :
    Calls Try.prog 18 #[pt mb, .int .i64 g, .int .i64 a] w fun e w' => ∃ kb kn K, e = .returned (.tuple #[.int .i64 0, .int .i64 7]) ∧ Mach w' mb (S.cached kb kn K) ∧ Goes w.heap.size S kb kn K (g, a / 8) (S.M.ent r (a / 8).toNat) ∧ Only (S.own mb) w w' := by
  have hb := ent_bd h.mem r (a / 8).toNat
  go_enter Try.func18, Try.ntmps18
  go_wp2_with fail
  refine (isAddress_any _ a).mono ?_
  rintro e w1 ⟨rfl, rfl⟩
  go_wp2_with fail
  refine (check_any _ mb S h g hd.g64 _).mono ?_
  rintro e w1 ⟨rfl, ho⟩
  rw [Good.checkA h0 h1 hd]
  have h1' := h.nob ho
  go_wp2_with fail
  refine (mwalk_any _ mb S h1' g (a / 8) r hd.g64 hd.G hd.p0 hd.p1 hd.root hd.tab hd.K hd.kn).mono ?_
  rintro e w2 ⟨kb, kn, K, rfl, h2, hG2, ho2⟩
  go_wp2_with (go_at_call 34; refine (present_any _ _ hb.1 hb.2).mono ?_; rintro e w' ⟨rfl, rfl⟩)
  go_ret2
  exact ⟨kb, kn, K, rfl, h2, ⟨fun b hb => (hG2.kb b hb).imp id (fun x => Nat.le_trans ho.size x), hG2.kn, hG2.K⟩, (ho.of_nob (S := S.own mb)).trans ho2⟩

set_option maxHeartbeats 1000000 in
theorem readGood_any (w : World) (mb : Nat) (S : MS) (h : Mach w mb S) (g a : Int) (r : Nat) (h0 : 0 ≤ a) (h1 : a < 512) (hd : Good S g (a / 8) r) (hx : pres (S.M.ent r (a / 8).toNat) = true) (hn : numb (S.M.ent r (a / 8).toNat) < S.M.n) :
    Calls Try.prog 18 #[pt mb, .int .i64 g, .int .i64 a] w fun e w' => ∃ kb kn K, e = .returned (.tuple #[.int .i64 (S.M.W (numb (S.M.ent r (a / 8).toNat)) (a.toNat % 8)), .int .i64 0]) ∧ Mach w' mb (S.cached kb kn K) ∧ Goes w.heap.size S kb kn K (g, a / 8) (S.M.ent r (a / 8).toNat) ∧ Only (S.own mb) w w' := by
  have hb := ent_bd h.mem r (a / 8).toNat
  go_enter Try.func18, Try.ntmps18
  go_wp2_with fail
  refine (isAddress_any _ a).mono ?_
  rintro e w1 ⟨rfl, rfl⟩
  go_wp2_with fail
  refine (check_any _ mb S h g hd.g64 _).mono ?_
  rintro e w1 ⟨rfl, ho⟩
  rw [Good.checkA h0 h1 hd]
  have h1' := h.nob ho
  go_wp2_with fail
  refine (mwalk_any _ mb S h1' g (a / 8) r hd.g64 hd.G hd.p0 hd.p1 hd.root hd.tab hd.K hd.kn).mono ?_
  rintro e w2 ⟨kb, kn, K, rfl, h2, hG2, ho2⟩
  have hG3 : Goes w.heap.size S kb kn K (g, a / 8) (S.M.ent r (a / 8).toNat) := ⟨fun b hb => (hG2.kb b hb).imp id (fun x => Nat.le_trans ho.size x), hG2.kn, hG2.K⟩
  have hO2 := (ho.of_nob (S := S.own mb)).trans ho2
  go_wp2_with (first | (go_at_call 34; refine (present_any _ _ hb.1 hb.2).mono ?_; rintro e w' ⟨rfl, rfl⟩) | (go_at_call 47; refine (mword_any _ mb _ h2 _ a h0 h1 hb hn).mono ?_; rintro e w3 ⟨rfl, ho3⟩))
  go_ret2
  exact ⟨kb, kn, K, rfl, h2.nob ho3, hG3, hO2.after ho3 (fun _ _ q => q.elim)⟩
end Go.Proofs.Ytfcepnhknmbaaaa
