/- The contract of New. -/
import Derived.Test.YtfcepnhknmbaaaaGreatMachM
namespace Go.Proofs.YtfcepnhknmbaaaaGreat
open Go.RowKit Go.Deep
open Go.Maps (Keyed)

def MS.fresh (n mp fb gb : Nat) : MS := ⟨Mm.fresh n, mp, fb, gb, none, fun _ => none, 0, 0, fun _ => none, 0, fun _ => -1⟩

set_option maxHeartbeats 400000 in
theorem newBad_any (w : World) (n : Int) (hn : n < 4 ∨ 64 < n) :
    Calls Tryz.prog 15 #[.int .i64 n] w fun e w' => e = .returned (.tuple #[.pointer none, .int .i64 1]) ∧ w = w' := by
  rcases hn with h | h
  · go_enter Tryz.func15, Tryz.ntmps15
    go_wp2
    go_ret2
    exact ⟨rfl, rfl⟩
  · have h2 : ¬ n < 4 := by omega
    go_enter Tryz.func15, Tryz.ntmps15
    go_wp2
    go_ret2
    exact ⟨rfl, rfl⟩

set_option maxHeartbeats 400000 in
theorem newGood_any (w : World) (n : Int) (h4 : 4 ≤ n) (h64 : n ≤ 64) :
    Calls Tryz.prog 15 #[.int .i64 n] w fun e w' => ∃ mb mp fb gb, e = .returned (.tuple #[pt mb, .int .i64 0]) ∧ w.heap.size ≤ mb ∧ w.heap.size ≤ mp ∧ w.heap.size ≤ fb ∧ w.heap.size ≤ gb ∧ Mach w' mb (MS.fresh n.toNat mp fb gb) ∧ Only Nob w w' := by
  have h1 : ¬ n < 4 := by omega
  have h2 : ¬ 64 < n := by omega
  have hmm := @run_makeMap Tryz.prog
  go_enter Tryz.func15, Tryz.ntmps15
  go_wp2_with fail
  refine (memNew_any _ n (by omega) h64).mono ?_
  rintro e w1 ⟨mp, fb, rfl, hmp, hfb, hM, ho⟩
  go_wp2
  go_ret2
  have l1 := hM.ptr_lt
  have l2 := hM.row_lt
  refine ⟨w1.heap.size + 1, mp, fb, w1.heap.size, rfl, by have := ho.size; omega, hmp, hfb, ho.size, ?_, (ho.alloc _).alloc _⟩
  have r := World.rowIs_alloc (w1.alloc (.map #[] 0)) #[pt mp, .map (some w1.heap.size), .int .i64 0, .map none] 69 (MS.fresh n.toNat mp fb w1.heap.size).cell (fun i hi => by
    have hi : i < 4 := hi
    have e : i = 0 ∨ i = 1 ∨ i = 2 ∨ i = 3 := by omega
    rcases e with e | e | e | e <;> subst e <;> rfl)
  rw [World.size_alloc] at r
  refine ⟨⟨69, r⟩, (hM.alloc _).alloc _, (MapIs.made Tryz.prog 3 kvG w1).nob ((Only.refl _ _).alloc _), rfl, ?_, ?_, ?_, ?_, ?_, ?_, ?_, ?_, ?_, fun _ => rfl⟩
  all_goals simp only [MS.fresh]
  all_goals first | omega | (intro h; cases h)

def MS.created (S : MS) (i : Nat) : MS := { S with M := S.M.take i, G := fun j => if j = (S.last : Int) + 1 then some i else S.G j, cnt := S.cnt + 1, last := S.last + 1, Rt := fun j => if j = (S.last : Int) + 1 then -1 else S.Rt j }
end Go.Proofs.YtfcepnhknmbaaaaGreat

/- The contract of Destroy. -/
namespace Go.Proofs.YtfcepnhknmbaaaaGreat
open Go.RowKit Go.Deep
open Go.Maps (Keyed)

def MS.destroyed (S : MS) (g : Int) (r : Nat) : MS :=
  { S with M := (S.M.ended r).unuse r, G := fun j => if j = g then none else S.G j, cnt := S.cnt - 1, K := fun i => if i.1 = g ∧ 0 ≤ i.2 ∧ i.2 < 64 then none else S.K i }

theorem put_gst_none (S : MS) (g : Int) : put S.gst g none = fun j => (if j = g then none else S.G j).map (fun r => rsd S.mp r (S.Rt j)) := by
  funext j
  simp only [put, MS.gst]
  split <;> rfl

theorem dropTo_kept (S : MS) (g : Int) (n : Nat) : dropTo S.kept (fun j => (g, (j : Int))) n = fun (i : Int × Int) => (if i.1 = g ∧ 0 ≤ i.2 ∧ i.2 < (n : Int) then none else S.K i).map (fun x => Value.int .u16 x) := by
  induction n with
  | zero =>
    funext i
    have e : ¬ (i.1 = g ∧ 0 ≤ i.2 ∧ i.2 < ((0 : Nat) : Int)) := by omega
    simp only [dropTo, MS.kept, if_neg e]
  | succ n ih =>
    funext i
    simp only [dropTo, put, ih]
    by_cases e : i = (g, (n : Int))
    · have e2 : i.1 = g ∧ 0 ≤ i.2 ∧ i.2 < ((n + 1 : Nat) : Int) := by rw [e]; exact ⟨rfl, by simp, by simp; omega⟩
      rw [if_pos e, if_pos e2]
      rfl
    · rw [if_neg e]
      have e2 : (i.1 = g ∧ 0 ≤ i.2 ∧ i.2 < ((n + 1 : Nat) : Int)) ↔ (i.1 = g ∧ 0 ≤ i.2 ∧ i.2 < (n : Int)) := by
        constructor
        · rintro ⟨a, b, c⟩
          refine ⟨a, b, ?_⟩
          have : i.2 ≠ n := fun h => e (Prod.ext a h)
          omega
        · rintro ⟨a, b, c⟩
          exact ⟨a, b, by omega⟩
      simp only [e2]

theorem Mach.kb_ne {w : World} {mb : Nat} {S : MS} (h : Mach w mb S) {b : Nat} (hb : w.heap.size ≤ b) : S.kb ≠ some b := by
  intro e
  have := h.own_lt (Or.inr (Or.inr (Or.inr (Or.inr e))))
  omega

theorem places_in {g : Int} (hg : In64 g) (j : Nat) (hj : j < 64) : In64 (g, (j : Int)).1 ∧ In64 (g, (j : Int)).2 := ⟨hg, ⟨by show _ ≤ (j : Int); omega, by show (j : Int) ≤ _; omega⟩⟩

set_option maxHeartbeats 400000 in
theorem destroyNone_any (w : World) (mb : Nat) (S : MS) (h : Mach w mb S) (g : Int) (hg : In64 g) (hG : S.G g = none) :
    Calls Tryz.prog 21 #[pt mb, .int .i64 g] w fun e w' => e = .returned (.int .i64 4) ∧ Only Nob w w' := by
  have hc := h.c1
  have hrun := h.gst.look_ok (i := g) law3 Tryz.underlying64 (zero77 w) (key3 hg)
  simp only [MS.gst, hG, Option.map_none, Option.getD_none, Option.isSome_none] at hrun
  go_enter Tryz.func21, Tryz.ntmps21
  go_wp2
  go_ret
  exact ⟨rfl, (Only.refl _ _).alloc _⟩

set_option maxRecDepth 100000 in
set_option maxHeartbeats 1000000 in
theorem destroySome_any (w : World) (mb : Nat) (S : MS) (h : Mach w mb S) (g : Int) (r : Nat) (hg : In64 g) (hG : S.G g = some r) (hr : r < S.M.n)
  (hS : ∀ k, k < 64 → Sound (S.M.endTo r k) r k) (hU : 1 ≤ (S.M.ended r).U r) :
    Calls Tryz.prog 21 #[pt mb, .int .i64 g] w fun e w' => e = .returned (.int .i64 0) ∧ Mach w' mb (S.destroyed g r) ∧ Only (S.own mb) w w' := by
  have hc := h.c1
  have hrun := h.gst.look_ok (i := g) law3 Tryz.underlying64 (zero77 w) (key3 hg)
  simp only [MS.gst, hG, Option.map_some, Option.getD_some, Option.isSome_some] at hrun
  have hfld := fun w => fld0 w S.mp r (S.Rt g)
  have hgs : S.gst g = some (rsd S.mp r (S.Rt g)) := by simp [MS.gst, hG]
  have HG := hid hgs
  have hA := h.nob ((Only.refl Nob w).alloc (.cells #[pt S.mp, .int .i64 r, .int .i64 (S.Rt g)] 95))
  have hO := ((Only.refl (S.own mb) w).alloc (.cells #[pt S.mp, .int .i64 r, .int .i64 (S.Rt g)] 95))
  clear hG hgs
  go_enter Tryz.func21, Tryz.ntmps21
  go_wp2_with fail
  refine (end_any (M := S.M) _ r hA.mem hr hS hU).mono ?_
  rintro e w1 ⟨rfl, hM1, ho1⟩
  have hB := hA.turnM hM1 ho1
  have hO1 := hO.after ho1 (fun b _ hb => Or.inr (Or.inr (Or.inl hb)))
  have b1 : w1.cell? ⟨mb, 1, none⟩ = some (.map (some S.gb)) := hB.c1
  have hgm : MapIs Tryz.prog 3 kvG w1 S.gb S.cnt S.cnt S.gst := hB.gst
  obtain ⟨w2, hdel, hm2, ho2⟩ := hgm.drop (i := g) law3 Tryz.underlying64 kvG_inj (key3 hg) 0
  rw [HG.out, put_gst_none] at hm2
  have hC := hB.turnG (G' := fun j => if j = g then none else S.G j) (c' := S.cnt - 1) (Rt' := S.Rt) hm2.tight ho2
  have hO2 := hO1.after ho2 (fun b _ hb => Or.inr (Or.inr (Or.inr (Or.inl hb))))
  have b3 : w2.cell? ⟨mb, 3, none⟩ = some (.map S.kb) := hC.c3
  clear hrun hgm hm2
  go_wp2_with fail
  go_cut [] (fun wx => Mach wx mb (S.destroyed g r) ∧ Only (S.own mb) w wx)
  case first =>
    go_region_with (first
      | (go_at_call 51; refine (placesOf_any _ g).mono ?_; rintro e w3 ⟨sb, hsb, rfl, hpl, ho3⟩; have hD := hC.nob (((Only.refl Nob w2).drew).trans ho3); have hsk : S.kb ≠ some sb := hC.kb_ne hsb; have d3 : w3.cell? ⟨mb, 3, none⟩ = some (.map S.kb) := hD.c3)
      | (go_at_call 50; refine (drop_any _ mb 3 sb 64 64 S.kb S.kn S.kept (fun j => (g, (j : Int))) (places_in hg) d3 hD.kpt hD.n4 hsk (Nat.le_refl _) hpl).mono ?_; rintro e w4 ⟨rfl, hk4, ho4⟩))
    all_goals
      go_wp2_with fail
      go_meet
      case rel =>
        rw [dropTo_kept] at hk4
        refine ⟨hD.turnK (K' := fun i => if i.1 = g ∧ 0 ≤ i.2 ∧ i.2 < 64 then none else S.K i) (n' := S.kn) hk4 hD.kz ho4, ?_⟩
        exact (hO2.drew.after ho3 (fun _ _ h => h.elim)).after ho4 (fun b _ hb => Or.inr (Or.inr (Or.inr (Or.inr hb))))
  case rest =>
    obtain ⟨hE, hOE⟩ := hcut
    go_wp2
    go_ret
    exact ⟨rfl, hE, hOE⟩
end Go.Proofs.YtfcepnhknmbaaaaGreat

/- The contracts of a machine's word, setWord, checkWord; memory's Hold. -/
namespace Go.Proofs.YtfcepnhknmbaaaaGreat
open Go.RowKit Go.Deep
open Go.Maps (Keyed)

def MS.withM (S : MS) (M : Mm) : MS := { S with M := M }

set_option maxHeartbeats 400000 in
theorem mword_any (w : World) (mb : Nat) (S : MS) (h : Mach w mb S) (x a : Int) (h0 : 0 ≤ a) (h1 : a < 512) (hx : 0 ≤ x ∧ x ≤ 65535) (hn : numb x < S.M.n) :
    Calls Tryz.prog 63 #[pt mb, .int .u16 x, .int .i64 a] w fun e w' => e = .returned (.int .i64 (S.M.W (numb x) (a.toNat % 8))) ∧ Only Nob w w' := by
  have c0 : w.cell? ⟨mb, 0, none⟩ = some (pt S.mp) := h.c0
  have hm2 : Mem w S.mp S.fb S.M := h.mem
  have hwb := h.mem.wb (numb x) (a % 8).toNat
  have hmod := Int.tmod_eq_emod_of_nonneg h0 (b := 8)
  go_enter Tryz.func63, Tryz.ntmps63
  go_wp2_with fail
  go_quiet (first | (go_at_call 68; exact quiet_same (number_any _ _ hx.1 hx.2)) | (go_at_call 89; exact quiet_same (word_any (mp := S.mp) (fb := S.fb) (M := S.M) _ _ _ (hm2.drewN _) (by omega) (by omega) (by omega) (by omega))))
  go_wp2
  go_ret
  refine ⟨?_, (Only.refl Nob w).drewN _⟩
  show Ending.returned (.int .i64 (S.M.W (numb x) (a % 8).toNat)) = _
  rw [show (a % 8).toNat = a.toNat % 8 by omega]

set_option maxHeartbeats 400000 in
theorem msetWord_any (w : World) (mb : Nat) (S : MS) (h : Mach w mb S) (x a v : Int) (h0 : 0 ≤ a) (h1 : a < 512) (hv0 : 0 ≤ v) (hv1 : v ≤ 65535) (hx : 0 ≤ x ∧ x ≤ 65535) (hn : numb x < S.M.n) :
    Calls Tryz.prog 66 #[pt mb, .int .u16 x, .int .i64 a, .int .i64 v] w fun e w' => e = .returned (.tuple #[]) ∧ Mach w' mb (S.withM (S.M.setW (numb x) (a.toNat % 8) v)) ∧ Only (One S.fb) w w' := by
  have c0 : w.cell? ⟨mb, 0, none⟩ = some (pt S.mp) := h.c0
  have hm2 : Mem w S.mp S.fb S.M := h.mem
  have hmod := Int.tmod_eq_emod_of_nonneg h0 (b := 8)
  have hwr : IntKind.u16.wrap v = v := by rw [IntKind.wrap_u16]; omega
  go_enter Tryz.func66, Tryz.ntmps66
  go_wp2_with fail
  go_region_with (first
    | (go_at_call 68; refine (number_any _ _ hx.1 hx.2).mono ?_; rintro e w' ⟨rfl, rfl⟩)
    | (go_at_call 90; refine (setWord_any (mp := S.mp) (fb := S.fb) (M := S.M) _ _ _ _ hm2.drew (by omega) (by omega) (by omega) (by omega) hv0 hv1).mono ?_; rintro e w3 ⟨rfl, hM3, ho3⟩))
  all_goals
    go_wp2
    go_end0
    rw [Int.toNat_natCast, show (a % 8).toNat = a.toNat % 8 by omega] at hM3
    exact ⟨rfl, (h.nob (Only.refl Nob w).drew).turnM hM3 ho3, (Only.refl _ w).drew.trans ho3⟩

def checkW (S : MS) (g a v : Int) : Int := if checkE S g (isAd a) ≠ 0 then checkE S g (isAd a) else if v < 0 ∨ 65535 < v then 9 else 0

set_option maxHeartbeats 400000 in
theorem checkWord_any (w : World) (mb : Nat) (S : MS) (h : Mach w mb S) (g a v : Int) (hg64 : In64 g) :
    Calls Tryz.prog 64 #[pt mb, .int .i64 g, .int .i64 a, .int .i64 v] w fun e w' => e = .returned (.int .i64 (checkW S g a v)) ∧ Only Nob w w' := by
  by_cases hb : checkE S g (isAd a) = 0
  · have HC := hid hb
    clear hb
    by_cases hv : v < 0
    · have HE : Hid (checkW S g a v = 9) := by simp [Hid, checkW, HC.out, hv]
      go_enter Tryz.func64, Tryz.ntmps64
      go_wp2_with fail
      refine (isAddress_any _ a).mono ?_
      rintro e w1 ⟨rfl, rfl⟩
      go_wp2_with fail
      refine (check_any _ mb S h g hg64 _).mono ?_
      rintro e w1 ⟨rfl, ho⟩
      rw [HC.out]
      go_wp2_with fail
      go_ret
      exact ⟨ret_int HE.out.symm, ho⟩
    · by_cases hv2 : 65535 < v
      · have HE : Hid (checkW S g a v = 9) := by simp [Hid, checkW, HC.out, hv2]
        go_enter Tryz.func64, Tryz.ntmps64
        go_wp2_with fail
        refine (isAddress_any _ a).mono ?_
        rintro e w1 ⟨rfl, rfl⟩
        go_wp2_with fail
        refine (check_any _ mb S h g hg64 _).mono ?_
        rintro e w1 ⟨rfl, ho⟩
        rw [HC.out]
        go_wp2_with fail
        go_ret
        exact ⟨ret_int HE.out.symm, ho⟩
      · have HE : Hid (checkW S g a v = 0) := by simp [Hid, checkW, HC.out, hv, hv2]
        go_enter Tryz.func64, Tryz.ntmps64
        go_wp2_with fail
        refine (isAddress_any _ a).mono ?_
        rintro e w1 ⟨rfl, rfl⟩
        go_wp2_with fail
        refine (check_any _ mb S h g hg64 _).mono ?_
        rintro e w1 ⟨rfl, ho⟩
        rw [HC.out]
        go_wp2_with fail
        go_ret
        exact ⟨ret_int HE.out.symm, ho⟩
  · have HE : Hid (checkW S g a v = checkE S g (isAd a)) := by simp [Hid, checkW, hb]
    have hb' : (checkE S g (isAd a) != 0) = true := by simp [hb]
    clear hb
    go_enter Tryz.func64, Tryz.ntmps64
    go_wp2_with fail
    refine (isAddress_any _ a).mono ?_
    rintro e w1 ⟨rfl, rfl⟩
    go_wp2_with fail
    refine (check_any _ mb S h g hg64 _).mono ?_
    rintro e w1 ⟨rfl, ho⟩
    go_wp2_with fail
    go_ret
    exact ⟨ret_int HE.out.symm, ho⟩

def Mm.hold (M : Mm) (f : Nat) : Mm := M.setU f (M.U f + 1)

set_option maxHeartbeats 400000 in
theorem hold_any {mp fb : Nat} {M : Mm} (w : World) (x : Int) (hM : Mem w mp fb M) (h0 : 0 ≤ x) (h1 : x < M.n) (hu : 0 ≤ M.U x.toNat) (hu2 : M.U x.toNat < 1000000) :
    Calls Tryz.prog 67 #[pt mp, .int .i64 x] w fun e w' => e = .returned (.tuple #[]) ∧ Mem w' mp fb (M.hold x.toNat) ∧ Only (One fb) w w' := by
  have hs := hM.slice
  have hle := hM.le
  have hw := hM.user (i := x.toNat) (by omega)
  have hf := hM.froz (x.toNat * 9 + 8)
  go_enter Tryz.func67, Tryz.ntmps67
  go_wp2
  go_end0
  exact ⟨rfl, hM.setU (by omega), (Only.refl _ _).setOne _ _⟩
end Go.Proofs.YtfcepnhknmbaaaaGreat

/- The contract of Map. -/
namespace Go.Proofs.YtfcepnhknmbaaaaGreat
open Go.RowKit Go.Deep
open Go.Maps (Keyed)

set_option maxHeartbeats 400000 in
theorem mapBad_any (w : World) (mb : Nat) (S : MS) (h : Mach w mb S) (g p : Int) (b : Bool) (hg : In64 g) (hb : checkE S g (isPg p) ≠ 0) :
    Calls Tryz.prog 23 #[pt mb, .int .i64 g, .int .i64 p, .bool b] w fun e w' => e = .returned (.int .i64 (checkE S g (isPg p))) ∧ Only Nob w w' := by
  have hb' : (checkE S g (isPg p) != 0) = true := by simp [hb]
  clear hb
  go_enter Tryz.func23, Tryz.ntmps23
  go_wp2_with fail
  refine (isPage_any _ p).mono ?_
  rintro e w1 ⟨rfl, rfl⟩
  go_wp2_with fail
  refine (check_any _ mb S h g hg _).mono ?_
  rintro e w1 ⟨rfl, ho⟩
  go_wp2_with fail
  go_ret
  exact ⟨rfl, ho⟩

/-- What Map asks of a guest's page. -/
structure Good (S : MS) (g p : Int) (r : Nat) : Prop where
  g64 : In64 g
  G : S.G g = some r
  p0 : 0 ≤ p
  p1 : p < 64
  root : r < S.M.n
  used : 1 ≤ S.M.U r
  tab : pres (S.M.tbl r p.toNat) = true → numb (S.M.tbl r p.toNat) < S.M.n
  K : ∀ x, S.K (g, p) = some x → x = S.M.ent r p.toNat
  kn : S.kn < maxLen

theorem Good.check {S : MS} {g p : Int} {r : Nat} (h : Good S g p r) : checkE S g (isPg p) = 0 := by
  simp [checkE, h.G, isPg, h.p0, h.p1]

set_option maxHeartbeats 1000000 in
theorem mapTaken_any (w : World) (mb : Nat) (S : MS) (h : Mach w mb S) (g p : Int) (r : Nat) (b : Bool) (hd : Good S g p r) (hx : pres (S.M.ent r p.toNat) = true) :
    Calls Tryz.prog 23 #[pt mb, .int .i64 g, .int .i64 p, .bool b] w fun e w' => ∃ kb kn K, e = .returned (.int .i64 6) ∧ Mach w' mb (S.cached kb kn K) ∧ Goes w.heap.size S kb kn K (g, p) (S.M.ent r p.toNat) ∧ Only (S.own mb) w w' := by
  have hb := ent_bd h.mem r p.toNat
  go_enter Tryz.func23, Tryz.ntmps23
  go_wp2_with fail
  refine (isPage_any _ p).mono ?_
  rintro e w1 ⟨rfl, rfl⟩
  go_wp2_with fail
  refine (check_any _ mb S h g hd.g64 _).mono ?_
  rintro e w1 ⟨rfl, ho⟩
  rw [hd.check]
  have h1 := h.nob ho
  go_wp2_with fail
  refine (mwalk_any _ mb S h1 g p r hd.g64 hd.G hd.p0 hd.p1 hd.root hd.tab hd.K hd.kn).mono ?_
  rintro e w2 ⟨kb, kn, K, rfl, h2, hG2, ho2⟩
  go_wp2_with (go_at_call 56; refine (present_any _ _ hb.1 hb.2).mono ?_; rintro e w' ⟨rfl, rfl⟩)
  go_ret
  exact ⟨kb, kn, K, rfl, h2, ⟨fun b hb => (hG2.kb b hb).imp id (fun x => Nat.le_trans ho.size x), hG2.kn, hG2.K⟩, (ho.of_nob (S := S.own mb)).trans ho2⟩

set_option maxHeartbeats 1000000 in
theorem mapFullHad_any (w : World) (mb : Nat) (S : MS) (h : Mach w mb S) (g p : Int) (r : Nat) (b : Bool) (hd : Good S g p r) (hx : pres (S.M.ent r p.toNat) = false)
  (hpt : pres (S.M.tbl r p.toNat) = true) (hf : S.M.free < 1) :
    Calls Tryz.prog 23 #[pt mb, .int .i64 g, .int .i64 p, .bool b] w fun e w' => ∃ kb kn K, e = .returned (.int .i64 3) ∧ Mach w' mb (S.cached kb kn K) ∧ Goes w.heap.size S kb kn K (g, p) (S.M.ent r p.toNat) ∧ Only (S.own mb) w w' := by
  have hb := ent_bd h.mem r p.toNat
  have hfl := freeTo_le S.M.U S.M.n
  change S.M.free ≤ S.M.n at hfl
  have hle := h.mem.le
  go_enter Tryz.func23, Tryz.ntmps23
  go_wp2_with fail
  refine (isPage_any _ p).mono ?_
  rintro e w1 ⟨rfl, rfl⟩
  go_wp2_with fail
  refine (check_any _ mb S h g hd.g64 _).mono ?_
  rintro e w1 ⟨rfl, ho⟩
  rw [hd.check]
  have h1 := h.nob ho
  go_wp2_with fail
  refine (mwalk_any _ mb S h1 g p r hd.g64 hd.G hd.p0 hd.p1 hd.root hd.tab hd.K hd.kn).mono ?_
  rintro e w2 ⟨kb, kn, K, rfl, h2, hG2, ho2⟩
  have c1 : w2.cell? ⟨mb, 1, none⟩ = some (.map (some S.gb)) := h2.c1
  have hgm : MapIs Tryz.prog 3 kvG w2 S.gb S.cnt S.cnt S.gst := h2.gst
  have hrun := hgm.look (i := g) law3 Tryz.underlying64 (zero77 w2) (key3 hd.g64)
  simp only [MS.gst, hd.G, Option.map_some, Option.getD_some] at hrun
  have hfld := fun w => fld0 w S.mp r (S.Rt g)
  have h3 := h2.nob (((Only.refl Nob w2).alloc (.cells #[pt S.mp, .int .i64 r] 93)).drew)
  have c3 : ((w2.alloc (.cells #[pt S.mp, .int .i64 r] 93)).drew).cell? ⟨mb, 0, none⟩ = some (pt S.mp) := h3.c0
  have hlt := h2.lt
  have hG3 : Goes w.heap.size S kb kn K (g, p) (S.M.ent r p.toNat) := ⟨fun b hb => (hG2.kb b hb).imp id (fun x => Nat.le_trans ho.size x), hG2.kn, hG2.K⟩
  have hO2 := (ho.of_nob (S := S.own mb)).trans ho2
  have hm3 : Mem ((w2.alloc (.cells #[pt S.mp, .int .i64 r] 93)).drew) S.mp S.fb S.M := h3.mem
  have hroot := hd.root
  have hp0 := hd.p0
  have hp1 := hd.p1
  clear hgm hG2 ho h1 h
  go_wp2_with (go_at_call 56; refine (present_any _ _ hb.1 hb.2).mono ?_; rintro e w' ⟨rfl, rfl⟩)
  go_cut [40] (fun s wx => s = .bool true ∧ Mach wx mb (S.cached kb kn K) ∧ Only (S.own mb) w wx ∧ wx.cell? ⟨w2.heap.size, 0, none⟩ = some (pt S.mp) ∧ wx.cell? ⟨w2.heap.size, 1, none⟩ = some (.int .i64 r))
  case first =>
    go_region_with (first
      | (go_at_call 46; refine (memFree_any (mp := S.mp) (fb := S.fb) (M := S.M) _ ?_).mono ?_; (first | exact hm3 | exact hm4); rintro e w' ⟨rfl, rfl⟩)
      | (go_at_call 57; refine (missing_any (mp := S.mp) (fb := S.fb) (M := S.M) _ r p hm3 hroot hp0 hp1).mono ?_; rintro e w4 ⟨rfl, ho4⟩; rw [hpt]; have b0 := ho4.laidD (fun h => h) 0; have b1 := ho4.laidD (fun h => h) 1; have h4 := h3.nob ho4; have hm4 : Mem w4 S.mp S.fb S.M := h4.mem; have c4 : w4.cell? ⟨mb, 0, none⟩ = some (pt S.mp) := h4.c0; have c41 : w4.cell? ⟨mb, 1, none⟩ = some (.map (some S.gb)) := h4.c1))
    all_goals
      go_wp2_with fail
      go_meet
      case rel => exact ⟨by simp [IntKind.wrap_i64]; omega, h4, (hO2.alloc _).drew.after ho4 (fun _ _ h => h.elim), b0, b1⟩
  case rest =>
    obtain ⟨rfl, hC, hOC, b0, b1⟩ := hcut
    clear h2 h3 hm3 c3 hrun c1
    go_wp2
    go_ret
    exact ⟨kb, kn, K, rfl, hC, hG3, hOC⟩

set_option maxHeartbeats 1000000 in
theorem mapFullNew_any (w : World) (mb : Nat) (S : MS) (h : Mach w mb S) (g p : Int) (r : Nat) (b : Bool) (hd : Good S g p r) (hx : pres (S.M.ent r p.toNat) = false)
  (hpt : pres (S.M.tbl r p.toNat) = false) (hf : S.M.free < 2) :
    Calls Tryz.prog 23 #[pt mb, .int .i64 g, .int .i64 p, .bool b] w fun e w' => ∃ kb kn K, e = .returned (.int .i64 3) ∧ Mach w' mb (S.cached kb kn K) ∧ Goes w.heap.size S kb kn K (g, p) (S.M.ent r p.toNat) ∧ Only (S.own mb) w w' := by
  have hb := ent_bd h.mem r p.toNat
  have hfl := freeTo_le S.M.U S.M.n
  change S.M.free ≤ S.M.n at hfl
  have hle := h.mem.le
  go_enter Tryz.func23, Tryz.ntmps23
  go_wp2_with fail
  refine (isPage_any _ p).mono ?_
  rintro e w1 ⟨rfl, rfl⟩
  go_wp2_with fail
  refine (check_any _ mb S h g hd.g64 _).mono ?_
  rintro e w1 ⟨rfl, ho⟩
  rw [hd.check]
  have h1 := h.nob ho
  go_wp2_with fail
  refine (mwalk_any _ mb S h1 g p r hd.g64 hd.G hd.p0 hd.p1 hd.root hd.tab hd.K hd.kn).mono ?_
  rintro e w2 ⟨kb, kn, K, rfl, h2, hG2, ho2⟩
  have c1 : w2.cell? ⟨mb, 1, none⟩ = some (.map (some S.gb)) := h2.c1
  have hgm : MapIs Tryz.prog 3 kvG w2 S.gb S.cnt S.cnt S.gst := h2.gst
  have hrun := hgm.look (i := g) law3 Tryz.underlying64 (zero77 w2) (key3 hd.g64)
  simp only [MS.gst, hd.G, Option.map_some, Option.getD_some] at hrun
  have hfld := fun w => fld0 w S.mp r (S.Rt g)
  have h3 := h2.nob (((Only.refl Nob w2).alloc (.cells #[pt S.mp, .int .i64 r] 93)).drew)
  have c3 : ((w2.alloc (.cells #[pt S.mp, .int .i64 r] 93)).drew).cell? ⟨mb, 0, none⟩ = some (pt S.mp) := h3.c0
  have hlt := h2.lt
  have hG3 : Goes w.heap.size S kb kn K (g, p) (S.M.ent r p.toNat) := ⟨fun b hb => (hG2.kb b hb).imp id (fun x => Nat.le_trans ho.size x), hG2.kn, hG2.K⟩
  have hO2 := (ho.of_nob (S := S.own mb)).trans ho2
  have hm3 : Mem ((w2.alloc (.cells #[pt S.mp, .int .i64 r] 93)).drew) S.mp S.fb S.M := h3.mem
  have hroot := hd.root
  have hp0 := hd.p0
  have hp1 := hd.p1
  clear hgm hG2 ho h1 h
  go_wp2_with (go_at_call 56; refine (present_any _ _ hb.1 hb.2).mono ?_; rintro e w' ⟨rfl, rfl⟩)
  go_cut [40] (fun s wx => s = .bool true ∧ Mach wx mb (S.cached kb kn K) ∧ Only (S.own mb) w wx ∧ wx.cell? ⟨w2.heap.size, 0, none⟩ = some (pt S.mp) ∧ wx.cell? ⟨w2.heap.size, 1, none⟩ = some (.int .i64 r))
  case first =>
    go_region_with (first
      | (go_at_call 46; refine (memFree_any (mp := S.mp) (fb := S.fb) (M := S.M) _ ?_).mono ?_; (first | exact hm3 | exact hm4); rintro e w' ⟨rfl, rfl⟩)
      | (go_at_call 57; refine (missing_any (mp := S.mp) (fb := S.fb) (M := S.M) _ r p hm3 hroot hp0 hp1).mono ?_; rintro e w4 ⟨rfl, ho4⟩; rw [hpt]; have b0 := ho4.laidD (fun h => h) 0; have b1 := ho4.laidD (fun h => h) 1; have h4 := h3.nob ho4; have hm4 : Mem w4 S.mp S.fb S.M := h4.mem; have c4 : w4.cell? ⟨mb, 0, none⟩ = some (pt S.mp) := h4.c0; have c41 : w4.cell? ⟨mb, 1, none⟩ = some (.map (some S.gb)) := h4.c1))
    all_goals
      go_wp2_with fail
      go_meet
      case rel => exact ⟨by simp [IntKind.wrap_i64]; omega, h4, (hO2.alloc _).drew.after ho4 (fun _ _ h => h.elim), b0, b1⟩
  case rest =>
    obtain ⟨rfl, hC, hOC, b0, b1⟩ := hcut
    clear h2 h3 hm3 c3 hrun c1
    go_wp2
    go_ret
    exact ⟨kb, kn, K, rfl, hC, hG3, hOC⟩

end Go.Proofs.YtfcepnhknmbaaaaGreat

/- The contract of Map, where it gives a page. -/
namespace Go.Proofs.YtfcepnhknmbaaaaGreat
open Go.RowKit Go.Deep
open Go.Maps (Keyed)

set_option maxHeartbeats 2000000 in
theorem mapHad_any (w : World) (mb : Nat) (S : MS) (h : Mach w mb S) (g p : Int) (r f : Nat) (b : Bool) (hd : Good S g p r) (hx : pres (S.M.ent r p.toNat) = false)
  (hpt : pres (S.M.tbl r p.toNat) = true) (hf : 1 ≤ S.M.free) (hff : S.M.first = some f) :
    Calls Tryz.prog 23 #[pt mb, .int .i64 g, .int .i64 p, .bool b] w fun e w' => ∃ kb kn K, e = .returned (.int .i64 0) ∧ Mach w' mb ((S.cached kb kn K).withM ((S.M.take f).entered r p.toNat f b)) ∧ Goes w.heap.size S kb kn K (g, p) (S.M.ent r p.toNat) ∧ Only (S.own mb) w w' := by
  have HF := hid hff
  have htn := hd.tab hpt
  have hfn := (first_lt hff).1
  have hfr : r ≠ f := fun e => by
    have h0 := (first_lt hff).2
    have h1 := hd.used
    rw [← e] at h0
    omega
  have htb : (S.M.take f).tbl r p.toNat = S.M.tbl r p.toNat := by
    simp only [Mm.take, Mm.tbl, Mm.setU, Mm.blank]
    rw [if_neg hfr]
  have HT := hid htb
  clear hff htb
  have hb := ent_bd h.mem r p.toNat
  have hfl := freeTo_le S.M.U S.M.n
  change S.M.free ≤ S.M.n at hfl
  have hle := h.mem.le
  go_enter Tryz.func23, Tryz.ntmps23
  go_wp2_with fail
  refine (isPage_any _ p).mono ?_
  rintro e w1 ⟨rfl, rfl⟩
  go_wp2_with fail
  refine (check_any _ mb S h g hd.g64 _).mono ?_
  rintro e w1 ⟨rfl, ho⟩
  rw [hd.check]
  have h1 := h.nob ho
  go_wp2_with fail
  refine (mwalk_any _ mb S h1 g p r hd.g64 hd.G hd.p0 hd.p1 hd.root hd.tab hd.K hd.kn).mono ?_
  rintro e w2 ⟨kb, kn, K, rfl, h2, hG2, ho2⟩
  have c1 : w2.cell? ⟨mb, 1, none⟩ = some (.map (some S.gb)) := h2.c1
  have hgm : MapIs Tryz.prog 3 kvG w2 S.gb S.cnt S.cnt S.gst := h2.gst
  have hrun := hgm.look (i := g) law3 Tryz.underlying64 (zero77 w2) (key3 hd.g64)
  simp only [MS.gst, hd.G, Option.map_some, Option.getD_some] at hrun
  have hfld := fun w => fld0 w S.mp r (S.Rt g)
  have h3 := h2.nob (((Only.refl Nob w2).alloc (.cells #[pt S.mp, .int .i64 r] 93)).drew)
  have c3 : ((w2.alloc (.cells #[pt S.mp, .int .i64 r] 93)).drew).cell? ⟨mb, 0, none⟩ = some (pt S.mp) := h3.c0
  have hlt := h2.lt
  have hG3 : Goes w.heap.size S kb kn K (g, p) (S.M.ent r p.toNat) := ⟨fun b hb => (hG2.kb b hb).imp id (fun x => Nat.le_trans ho.size x), hG2.kn, hG2.K⟩
  have hO2 := (ho.of_nob (S := S.own mb)).trans ho2
  have hm3 : Mem ((w2.alloc (.cells #[pt S.mp, .int .i64 r] 93)).drew) S.mp S.fb S.M := h3.mem
  have hroot := hd.root
  have hp0 := hd.p0
  have hp1 := hd.p1
  have h2fb := h2.mem.row_lt
  change S.fb < w2.heap.size at h2fb
  clear hgm hG2 ho h1 h
  go_wp2_with (go_at_call 56; refine (present_any _ _ hb.1 hb.2).mono ?_; rintro e w' ⟨rfl, rfl⟩)
  go_cut [40] (fun s wx => s = .bool false ∧ Mach wx mb (S.cached kb kn K) ∧ Only (S.own mb) w wx ∧ wx.cell? ⟨w2.heap.size, 0, none⟩ = some (pt S.mp) ∧ wx.cell? ⟨w2.heap.size, 1, none⟩ = some (.int .i64 r))
  case first =>
    go_region_with (first
      | (go_at_call 46; refine (memFree_any (mp := S.mp) (fb := S.fb) (M := S.M) _ ?_).mono ?_; (first | exact hm3 | exact hm4); rintro e w' ⟨rfl, rfl⟩)
      | (go_at_call 57; refine (missing_any (mp := S.mp) (fb := S.fb) (M := S.M) _ r p hm3 hroot hp0 hp1).mono ?_; rintro e w4 ⟨rfl, ho4⟩; rw [hpt]; have b0 := ho4.laidD (fun h => h) 0; have b1 := ho4.laidD (fun h => h) 1; have h4 := h3.nob ho4; have hm4 : Mem w4 S.mp S.fb S.M := h4.mem; have c4 : w4.cell? ⟨mb, 0, none⟩ = some (pt S.mp) := h4.c0; have c41 : w4.cell? ⟨mb, 1, none⟩ = some (.map (some S.gb)) := h4.c1))
    all_goals
      go_wp2_with fail
      go_meet
      case rel => exact ⟨by simp [IntKind.wrap_i64]; omega, h4, (hO2.alloc _).drew.after ho4 (fun _ _ h => h.elim), b0, b1⟩
  case rest =>
    obtain ⟨rfl, hC, hOC, b0, b1⟩ := hcut
    clear h2 h3 hm3 c3 hrun c1
    have d0 : wc.cell? ⟨mb, 0, none⟩ = some (pt S.mp) := hC.c0
    have hmc : Mem wc.drew S.mp S.fb S.M := hC.mem.drew
    have hsz := World.block_lt_of_cell? _ _ b0
    have hrw := h2fb
    go_wp2
    go_region_with (first
      | (go_at_call 59; refine (take_any (mp := S.mp) (fb := S.fb) (M := S.M) _ f hmc HF.out).mono ?_; rintro e w5 ⟨rfl, hM5, ho5⟩; have a0 := ho5.keep (p := ⟨w2.heap.size, 0, none⟩) (fun h => by simp [One] at h; omega) b0; have a1 := ho5.keep (p := ⟨w2.heap.size, 1, none⟩) (fun h => by simp [One] at h; omega) b1; have h5 := (hC.nob (Only.refl Nob wc).drew).turnM hM5 ho5)
      | (go_at_call 58; refine (enterHad_any (mp := S.mp) (fb := S.fb) (M := S.M.take f) _ r p f b hM5 hp0 hp1 hroot (by omega) (by rw [HT.out]; exact hpt) (by rw [HT.out]; exact htn)).mono ?_; rintro e w6 ⟨rfl, hM6, ho6⟩))
    all_goals
      go_wp2
      go_ret
      refine ⟨kb, kn, K, rfl, h5.turnM hM6 ho6, hG3, ?_⟩
      exact (hOC.drew.after ho5 (fun b _ hb => Or.inr (Or.inr (Or.inl hb)))).after ho6 (fun b _ hb => Or.inr (Or.inr (Or.inl hb)))

set_option maxHeartbeats 2000000 in
theorem mapNew_any (w : World) (mb : Nat) (S : MS) (h : Mach w mb S) (g p : Int) (r f : Nat) (b : Bool) (hd : Good S g p r) (hx : pres (S.M.ent r p.toNat) = false)
  (hpt : pres (S.M.tbl r p.toNat) = false) (hf : 2 ≤ S.M.free) (hff : S.M.first = some f) (t : Nat) (htt : (S.M.take f).first = some t) :
    Calls Tryz.prog 23 #[pt mb, .int .i64 g, .int .i64 p, .bool b] w fun e w' => ∃ kb kn K, e = .returned (.int .i64 0) ∧ Mach w' mb ((S.cached kb kn K).withM (((S.M.take f).tabled r p.toNat t).entered r p.toNat f b)) ∧ Goes w.heap.size S kb kn K (g, p) (S.M.ent r p.toNat) ∧ Only (S.own mb) w w' := by
  have HF := hid hff
  have HTT := hid htt
  clear htt
  have hfn := (first_lt hff).1
  have hfr : r ≠ f := fun e => by
    have h0 := (first_lt hff).2
    have h1 := hd.used
    rw [← e] at h0
    omega
  have htb : (S.M.take f).tbl r p.toNat = S.M.tbl r p.toNat := by
    simp only [Mm.take, Mm.tbl, Mm.setU, Mm.blank]
    rw [if_neg hfr]
  have HT := hid htb
  clear hff htb
  have hb := ent_bd h.mem r p.toNat
  have hfl := freeTo_le S.M.U S.M.n
  change S.M.free ≤ S.M.n at hfl
  have hle := h.mem.le
  go_enter Tryz.func23, Tryz.ntmps23
  go_wp2_with fail
  refine (isPage_any _ p).mono ?_
  rintro e w1 ⟨rfl, rfl⟩
  go_wp2_with fail
  refine (check_any _ mb S h g hd.g64 _).mono ?_
  rintro e w1 ⟨rfl, ho⟩
  rw [hd.check]
  have h1 := h.nob ho
  go_wp2_with fail
  refine (mwalk_any _ mb S h1 g p r hd.g64 hd.G hd.p0 hd.p1 hd.root hd.tab hd.K hd.kn).mono ?_
  rintro e w2 ⟨kb, kn, K, rfl, h2, hG2, ho2⟩
  have c1 : w2.cell? ⟨mb, 1, none⟩ = some (.map (some S.gb)) := h2.c1
  have hgm : MapIs Tryz.prog 3 kvG w2 S.gb S.cnt S.cnt S.gst := h2.gst
  have hrun := hgm.look (i := g) law3 Tryz.underlying64 (zero77 w2) (key3 hd.g64)
  simp only [MS.gst, hd.G, Option.map_some, Option.getD_some] at hrun
  have hfld := fun w => fld0 w S.mp r (S.Rt g)
  have h3 := h2.nob (((Only.refl Nob w2).alloc (.cells #[pt S.mp, .int .i64 r] 93)).drew)
  have c3 : ((w2.alloc (.cells #[pt S.mp, .int .i64 r] 93)).drew).cell? ⟨mb, 0, none⟩ = some (pt S.mp) := h3.c0
  have hlt := h2.lt
  have hG3 : Goes w.heap.size S kb kn K (g, p) (S.M.ent r p.toNat) := ⟨fun b hb => (hG2.kb b hb).imp id (fun x => Nat.le_trans ho.size x), hG2.kn, hG2.K⟩
  have hO2 := (ho.of_nob (S := S.own mb)).trans ho2
  have hm3 : Mem ((w2.alloc (.cells #[pt S.mp, .int .i64 r] 93)).drew) S.mp S.fb S.M := h3.mem
  have hroot := hd.root
  have hp0 := hd.p0
  have hp1 := hd.p1
  have h2fb := h2.mem.row_lt
  change S.fb < w2.heap.size at h2fb
  clear hgm hG2 ho h1 h
  go_wp2_with (go_at_call 56; refine (present_any _ _ hb.1 hb.2).mono ?_; rintro e w' ⟨rfl, rfl⟩)
  go_cut [40] (fun s wx => s = .bool false ∧ Mach wx mb (S.cached kb kn K) ∧ Only (S.own mb) w wx ∧ wx.cell? ⟨w2.heap.size, 0, none⟩ = some (pt S.mp) ∧ wx.cell? ⟨w2.heap.size, 1, none⟩ = some (.int .i64 r))
  case first =>
    go_region_with (first
      | (go_at_call 46; refine (memFree_any (mp := S.mp) (fb := S.fb) (M := S.M) _ ?_).mono ?_; (first | exact hm3 | exact hm4); rintro e w' ⟨rfl, rfl⟩)
      | (go_at_call 57; refine (missing_any (mp := S.mp) (fb := S.fb) (M := S.M) _ r p hm3 hroot hp0 hp1).mono ?_; rintro e w4 ⟨rfl, ho4⟩; rw [hpt]; have b0 := ho4.laidD (fun h => h) 0; have b1 := ho4.laidD (fun h => h) 1; have h4 := h3.nob ho4; have hm4 : Mem w4 S.mp S.fb S.M := h4.mem; have c4 : w4.cell? ⟨mb, 0, none⟩ = some (pt S.mp) := h4.c0; have c41 : w4.cell? ⟨mb, 1, none⟩ = some (.map (some S.gb)) := h4.c1))
    all_goals
      go_wp2_with fail
      go_meet
      case rel => exact ⟨by simp [IntKind.wrap_i64]; omega, h4, (hO2.alloc _).drew.after ho4 (fun _ _ h => h.elim), b0, b1⟩
  case rest =>
    obtain ⟨rfl, hC, hOC, b0, b1⟩ := hcut
    clear h2 h3 hm3 c3 hrun c1
    have d0 : wc.cell? ⟨mb, 0, none⟩ = some (pt S.mp) := hC.c0
    have hmc : Mem wc.drew S.mp S.fb S.M := hC.mem.drew
    have hsz := World.block_lt_of_cell? _ _ b0
    have hrw := h2fb
    go_wp2
    go_region_with (first
      | (go_at_call 59; refine (take_any (mp := S.mp) (fb := S.fb) (M := S.M) _ f hmc HF.out).mono ?_; rintro e w5 ⟨rfl, hM5, ho5⟩; have a0 := ho5.keep (p := ⟨w2.heap.size, 0, none⟩) (fun h => by simp [One] at h; omega) b0; have a1 := ho5.keep (p := ⟨w2.heap.size, 1, none⟩) (fun h => by simp [One] at h; omega) b1; have h5 := (hC.nob (Only.refl Nob wc).drew).turnM hM5 ho5)
      | (go_at_call 58; refine (enterNew_any (mp := S.mp) (fb := S.fb) (M := S.M.take f) _ r p f t b hM5 hp0 hp1 hroot (by omega) (by rw [HT.out]; exact hpt) HTT.out).mono ?_; rintro e w6 ⟨rfl, hM6, ho6⟩))
    all_goals
      go_wp2
      go_ret
      refine ⟨kb, kn, K, rfl, h5.turnM hM6 ho6, hG3, ?_⟩
      exact (hOC.drew.after ho5 (fun b _ hb => Or.inr (Or.inr (Or.inl hb)))).after ho6 (fun b _ hb => Or.inr (Or.inr (Or.inl hb)))

end Go.Proofs.YtfcepnhknmbaaaaGreat

/- The contracts of Unmap, Read, Write. -/
namespace Go.Proofs.YtfcepnhknmbaaaaGreat
open Go.RowKit Go.Deep
open Go.Maps (Keyed)

set_option maxHeartbeats 400000 in
theorem unmapBad_any (w : World) (mb : Nat) (S : MS) (h : Mach w mb S) (g p : Int) (hg : In64 g) (hb : checkE S g (isPg p) ≠ 0) :
    Calls Tryz.prog 25 #[pt mb, .int .i64 g, .int .i64 p] w fun e w' => e = .returned (.int .i64 (checkE S g (isPg p))) ∧ Only Nob w w' := by
  have hb' : (checkE S g (isPg p) != 0) = true := by simp [hb]
  clear hb
  go_enter Tryz.func25, Tryz.ntmps25
  go_wp2_with fail
  refine (isPage_any _ p).mono ?_
  rintro e w1 ⟨rfl, rfl⟩
  go_wp2_with fail
  refine (check_any _ mb S h g hg _).mono ?_
  rintro e w1 ⟨rfl, ho⟩
  go_wp2_with fail
  go_ret
  exact ⟨rfl, ho⟩

set_option maxHeartbeats 1000000 in
theorem unmapAbsent_any (w : World) (mb : Nat) (S : MS) (h : Mach w mb S) (g p : Int) (r : Nat) (hd : Good S g p r) (hx : pres (S.M.ent r p.toNat) = false) :
    Calls Tryz.prog 25 #[pt mb, .int .i64 g, .int .i64 p] w fun e w' => ∃ kb kn K, e = .returned (.int .i64 7) ∧ Mach w' mb (S.cached kb kn K) ∧ Goes w.heap.size S kb kn K (g, p) (S.M.ent r p.toNat) ∧ Only (S.own mb) w w' := by
  have hb := ent_bd h.mem r p.toNat
  go_enter Tryz.func25, Tryz.ntmps25
  go_wp2_with fail
  refine (isPage_any _ p).mono ?_
  rintro e w1 ⟨rfl, rfl⟩
  go_wp2_with fail
  refine (check_any _ mb S h g hd.g64 _).mono ?_
  rintro e w1 ⟨rfl, ho⟩
  rw [hd.check]
  have h1 := h.nob ho
  go_wp2_with fail
  refine (mwalk_any _ mb S h1 g p r hd.g64 hd.G hd.p0 hd.p1 hd.root hd.tab hd.K hd.kn).mono ?_
  rintro e w2 ⟨kb, kn, K, rfl, h2, hG2, ho2⟩
  go_wp2_with (go_at_call 56; refine (present_any _ _ hb.1 hb.2).mono ?_; rintro e w' ⟨rfl, rfl⟩)
  go_ret
  exact ⟨kb, kn, K, rfl, h2, ⟨fun b hb => (hG2.kb b hb).imp id (fun x => Nat.le_trans ho.size x), hG2.kn, hG2.K⟩, (ho.of_nob (S := S.own mb)).trans ho2⟩

/-- Behind Unmap. -/
def MS.unmapped (S : MS) (i : Int × Int) (M : Mm) : MS := { S with M := M, K := fun j => if j = i then none else S.K j }

theorem put_kept_none (S : MS) (i : Int × Int) : put S.kept i none = fun j => (if j = i then none else S.K j).map (fun x => Value.int .u16 x) := by
  funext j
  simp only [put, MS.kept]
  split <;> rfl

theorem Mach.kb_new {w : World} {mb : Nat} {S : MS} (h : Mach w mb S) {b : Nat} (hb : w.heap.size ≤ b) : S.kb ≠ some b := by
  intro e
  have := h.own_lt (Or.inr (Or.inr (Or.inr (Or.inr e))))
  omega

set_option maxHeartbeats 1000000 in
theorem unmapGood_any (w : World) (mb : Nat) (S : MS) (h : Mach w mb S) (g p : Int) (r : Nat) (hd : Good S g p r) (hS : Sound S.M r p.toNat) (hx : pres (S.M.ent r p.toNat) = true) :
    Calls Tryz.prog 25 #[pt mb, .int .i64 g, .int .i64 p] w fun e w' => ∃ kb kn K, e = .returned (.int .i64 0) ∧ Mach w' mb ((S.cached kb kn K).unmapped (g, p) (S.M.remove r p.toNat)) ∧ Goes w.heap.size S kb kn K (g, p) (S.M.ent r p.toNat) ∧ Only (S.own mb) w w' := by
  have hb := ent_bd h.mem r p.toNat
  go_enter Tryz.func25, Tryz.ntmps25
  go_wp2_with fail
  refine (isPage_any _ p).mono ?_
  rintro e w1 ⟨rfl, rfl⟩
  go_wp2_with fail
  refine (check_any _ mb S h g hd.g64 _).mono ?_
  rintro e w1 ⟨rfl, ho⟩
  rw [hd.check]
  have h1 := h.nob ho
  go_wp2_with fail
  refine (mwalk_any _ mb S h1 g p r hd.g64 hd.G hd.p0 hd.p1 hd.root hd.tab hd.K hd.kn).mono ?_
  rintro e w2 ⟨kb, kn, K, rfl, h2, hG2, ho2⟩
  have c1 : w2.cell? ⟨mb, 1, none⟩ = some (.map (some S.gb)) := h2.c1
  have hgm : MapIs Tryz.prog 3 kvG w2 S.gb S.cnt S.cnt S.gst := h2.gst
  have hrun := hgm.look (i := g) law3 Tryz.underlying64 (zero77 w2) (key3 hd.g64)
  simp only [MS.gst, hd.G, Option.map_some, Option.getD_some] at hrun
  have hfld := fun w => fld0 w S.mp r (S.Rt g)
  have hG3 : Goes w.heap.size S kb kn K (g, p) (S.M.ent r p.toNat) := ⟨fun b hb => (hG2.kb b hb).imp id (fun x => Nat.le_trans ho.size x), hG2.kn, hG2.K⟩
  have hO2 := (ho.of_nob (S := S.own mb)).trans ho2
  have hm2 : Mem w2 S.mp S.fb S.M := h2.mem
  have hg64 := hd.g64
  have hp0 := hd.p0
  have hp1 := hd.p1
  have hsz2 := Nat.le_trans ho.size ho2.size
  clear hgm hG2 ho h1 ho2
  go_wp2_with (first | (go_at_call 56; refine (present_any _ _ hb.1 hb.2).mono ?_; rintro e w' ⟨rfl, rfl⟩) | (go_at_call 61; refine (remove_any (mp := S.mp) (fb := S.fb) (M := S.M) _ r p hm2 hp0 hp1 hS).mono ?_; rintro e w3 ⟨rfl, hM3, ho3⟩; have h3 := h2.turnM hM3 ho3; have hO3 := hO2.after ho3 (fun b _ hb => Or.inr (Or.inr (Or.inl hb)))))
  have h4 := h3.nob ((Only.refl Nob w3).alloc (.cells #[.int .i64 g, .int .i64 p] 99))
  have hkn : kb ≠ some w3.heap.size := h3.kb_new (Nat.le_refl _)
  refine (drop_any _ mb 3 w3.heap.size 1 1 kb kn (S.cached kb kn K).kept (fun _ => (g, p)) (fun _ _ => ⟨hg64, ⟨by show _ ≤ p; omega, by show p ≤ _; omega⟩⟩) h4.c3 h4.kpt h4.n4 hkn (by omega) (fun j hj => ?_)).mono ?_
  · have e : j = 0 := by omega
    subst e
    exact ⟨by simp, by simp⟩
  rintro e w5 ⟨rfl, hk5, ho5⟩
  have hk6 : Kept w5 kb kn (put (S.cached kb kn K).kept (g, p) none) := hk5
  rw [put_kept_none] at hk6
  have h5 := h4.turnK (K' := fun j => if j = (g, p) then none else K j) (n' := kn) hk6 h4.kz ho5
  have hO5 : Only (S.own mb) w w5 := (hO3.alloc _).after ho5 (fun b hb he => (hG3.kb b he).elim (fun x => Or.inr (Or.inr (Or.inr (Or.inr x)))) (fun x => absurd x (by omega)))
  go_wp2
  go_ret
  exact ⟨kb, kn, K, rfl, h5, hG3, hO5⟩

/-- What Read and Write ask of a guest's address. -/
theorem Good.checkA {S : MS} {g a : Int} {r : Nat} (h0 : 0 ≤ a) (h1 : a < 512) (h : Good S g (a / 8) r) : checkE S g (isAd a) = 0 := by
  simp [checkE, h.G, isAd, h0, h1]

set_option maxHeartbeats 400000 in
theorem readBad_any (w : World) (mb : Nat) (S : MS) (h : Mach w mb S) (g a : Int) (hg : In64 g) (hb : checkE S g (isAd a) ≠ 0) :
    Calls Tryz.prog 27 #[pt mb, .int .i64 g, .int .i64 a] w fun e w' => e = .returned (.tuple #[.int .i64 0, .int .i64 (checkE S g (isAd a))]) ∧ Only Nob w w' := by
  have hb' : (checkE S g (isAd a) != 0) = true := by simp [hb]
  clear hb
  go_enter Tryz.func27, Tryz.ntmps27
  go_wp2_with fail
  refine (isAddress_any _ a).mono ?_
  rintro e w1 ⟨rfl, rfl⟩
  go_wp2_with fail
  refine (check_any _ mb S h g hg _).mono ?_
  rintro e w1 ⟨rfl, ho⟩
  go_wp2_with fail
  go_ret2
  exact ⟨rfl, ho⟩

set_option maxHeartbeats 1000000 in
theorem readAbsent_any (w : World) (mb : Nat) (S : MS) (h : Mach w mb S) (g a : Int) (r : Nat) (h0 : 0 ≤ a) (h1 : a < 512) (hd : Good S g (a / 8) r) (hx : pres (S.M.ent r (a / 8).toNat) = false) :
    Calls Tryz.prog 27 #[pt mb, .int .i64 g, .int .i64 a] w fun e w' => ∃ kb kn K, e = .returned (.tuple #[.int .i64 0, .int .i64 7]) ∧ Mach w' mb (S.cached kb kn K) ∧ Goes w.heap.size S kb kn K (g, a / 8) (S.M.ent r (a / 8).toNat) ∧ Only (S.own mb) w w' := by
  have hb := ent_bd h.mem r (a / 8).toNat
  go_enter Tryz.func27, Tryz.ntmps27
  go_wp2_with fail
  refine (isAddress_any _ a).mono ?_
  rintro e w1 ⟨rfl, rfl⟩
  go_wp2_with fail
  refine (check_any _ mb S h g hd.g64 _).mono ?_
  rintro e w1 ⟨rfl, ho⟩
  rw [Good.checkA h0 h1 hd]
  have h1' := h.nob ho
  go_wp2_with fail
  refine (mwalk_any _ mb S h1' g (a / 8) r hd.g64 hd.G hd.p0 hd.p1 hd.root hd.tab hd.K hd.kn).mono ?_
  rintro e w2 ⟨kb, kn, K, rfl, h2, hG2, ho2⟩
  go_wp2_with (go_at_call 56; refine (present_any _ _ hb.1 hb.2).mono ?_; rintro e w' ⟨rfl, rfl⟩)
  go_ret2
  exact ⟨kb, kn, K, rfl, h2, ⟨fun b hb => (hG2.kb b hb).imp id (fun x => Nat.le_trans ho.size x), hG2.kn, hG2.K⟩, (ho.of_nob (S := S.own mb)).trans ho2⟩

set_option maxHeartbeats 1000000 in
theorem readGood_any (w : World) (mb : Nat) (S : MS) (h : Mach w mb S) (g a : Int) (r : Nat) (h0 : 0 ≤ a) (h1 : a < 512) (hd : Good S g (a / 8) r) (hx : pres (S.M.ent r (a / 8).toNat) = true) (hn : numb (S.M.ent r (a / 8).toNat) < S.M.n) :
    Calls Tryz.prog 27 #[pt mb, .int .i64 g, .int .i64 a] w fun e w' => ∃ kb kn K, e = .returned (.tuple #[.int .i64 (S.M.W (numb (S.M.ent r (a / 8).toNat)) (a.toNat % 8)), .int .i64 0]) ∧ Mach w' mb (S.cached kb kn K) ∧ Goes w.heap.size S kb kn K (g, a / 8) (S.M.ent r (a / 8).toNat) ∧ Only (S.own mb) w w' := by
  have hb := ent_bd h.mem r (a / 8).toNat
  go_enter Tryz.func27, Tryz.ntmps27
  go_wp2_with fail
  refine (isAddress_any _ a).mono ?_
  rintro e w1 ⟨rfl, rfl⟩
  go_wp2_with fail
  refine (check_any _ mb S h g hd.g64 _).mono ?_
  rintro e w1 ⟨rfl, ho⟩
  rw [Good.checkA h0 h1 hd]
  have h1' := h.nob ho
  go_wp2_with fail
  refine (mwalk_any _ mb S h1' g (a / 8) r hd.g64 hd.G hd.p0 hd.p1 hd.root hd.tab hd.K hd.kn).mono ?_
  rintro e w2 ⟨kb, kn, K, rfl, h2, hG2, ho2⟩
  have hG3 : Goes w.heap.size S kb kn K (g, a / 8) (S.M.ent r (a / 8).toNat) := ⟨fun b hb => (hG2.kb b hb).imp id (fun x => Nat.le_trans ho.size x), hG2.kn, hG2.K⟩
  have hO2 := (ho.of_nob (S := S.own mb)).trans ho2
  go_wp2_with (first | (go_at_call 56; refine (present_any _ _ hb.1 hb.2).mono ?_; rintro e w' ⟨rfl, rfl⟩) | (go_at_call 63; refine (mword_any _ mb _ h2 _ a h0 h1 hb hn).mono ?_; rintro e w3 ⟨rfl, ho3⟩))
  go_ret2
  exact ⟨kb, kn, K, rfl, h2.nob ho3, hG3, hO2.after ho3 (fun _ _ q => q.elim)⟩
end Go.Proofs.YtfcepnhknmbaaaaGreat

/- The contract of Write. -/
namespace Go.Proofs.YtfcepnhknmbaaaaGreat
open Go.RowKit Go.Deep
open Go.Maps (Keyed)

set_option maxHeartbeats 400000 in
theorem writeBad_any (w : World) (mb : Nat) (S : MS) (h : Mach w mb S) (g a v : Int) (hg64 : In64 g) (hb : checkE S g (isAd a) ≠ 0) :
    Calls Tryz.prog 29 #[pt mb, .int .i64 g, .int .i64 a, .int .i64 v] w fun e w' => e = .returned (.int .i64 (checkE S g (isAd a))) ∧ Only Nob w w' := by
  have HW : Hid (checkW S g a v = checkE S g (isAd a)) := by simp [Hid, checkW, hb]
  have hb' : (checkE S g (isAd a) != 0) = true := by simp [hb]
  clear hb
  go_enter Tryz.func29, Tryz.ntmps29
  go_wp2_with fail
  refine (checkWord_any _ mb S h g a v hg64).mono ?_
  rintro e w1 ⟨rfl, ho⟩
  rw [HW.out]
  go_wp2_with fail
  go_ret
  exact ⟨rfl, ho⟩

set_option maxHeartbeats 400000 in
theorem writeValue_any (w : World) (mb : Nat) (S : MS) (h : Mach w mb S) (g a v : Int) (hg64 : In64 g) (hc : checkE S g (isAd a) = 0) (hv : v < 0 ∨ 65535 < v) :
    Calls Tryz.prog 29 #[pt mb, .int .i64 g, .int .i64 a, .int .i64 v] w fun e w' => e = .returned (.int .i64 9) ∧ Only Nob w w' := by
  have HW : Hid (checkW S g a v = 9) := by simp [Hid, checkW, hc, hv]
  clear hc hv
  go_enter Tryz.func29, Tryz.ntmps29
  go_wp2_with fail
  refine (checkWord_any _ mb S h g a v hg64).mono ?_
  rintro e w1 ⟨rfl, ho⟩
  rw [HW.out]
  go_wp2_with fail
  go_ret
  exact ⟨rfl, ho⟩

theorem checkW_ok {S : MS} {g a v : Int} {r : Nat} (h0 : 0 ≤ a) (h1 : a < 512) (hv0 : 0 ≤ v) (hv1 : v ≤ 65535) (h : S.G g = some r) : checkW S g a v = 0 := by
  have h2 : checkE S g (isAd a) = 0 := by simp [checkE, h, isAd, h0, h1]
  have h3 : ¬ (v < 0 ∨ 65535 < v) := by omega
  simp [checkW, h2, h3]

set_option maxHeartbeats 1000000 in
theorem writeAbsent_any (w : World) (mb : Nat) (S : MS) (h : Mach w mb S) (g a v : Int) (r : Nat) (h0 : 0 ≤ a) (h1 : a < 512) (hv0 : 0 ≤ v) (hv1 : v ≤ 65535) (hd : Good S g (a / 8) r) (hx : pres (S.M.ent r (a / 8).toNat) = false) :
    Calls Tryz.prog 29 #[pt mb, .int .i64 g, .int .i64 a, .int .i64 v] w fun e w' => ∃ kb kn K, e = .returned (.int .i64 7) ∧ Mach w' mb (S.cached kb kn K) ∧ Goes w.heap.size S kb kn K (g, a / 8) (S.M.ent r (a / 8).toNat) ∧ Only (S.own mb) w w' := by
  have hb := ent_bd h.mem r (a / 8).toNat
  have hg64 := hd.g64
  have HW := hid (checkW_ok h0 h1 hv0 hv1 hd.G)
  go_enter Tryz.func29, Tryz.ntmps29
  go_wp2_with fail
  refine (checkWord_any _ mb S h g a v hg64).mono ?_
  rintro e w1 ⟨rfl, ho⟩
  rw [HW.out]
  have h1' := h.nob ho
  go_wp2_with fail
  refine (mwalk_any _ mb S h1' g (a / 8) r hd.g64 hd.G hd.p0 hd.p1 hd.root hd.tab hd.K hd.kn).mono ?_
  rintro e w2 ⟨kb, kn, K, rfl, h2, hG2, ho2⟩
  have hG3 : Goes w.heap.size S kb kn K (g, a / 8) (S.M.ent r (a / 8).toNat) := ⟨fun b hb => (hG2.kb b hb).imp id (fun x => Nat.le_trans ho.size x), hG2.kn, hG2.K⟩
  have hO2 := (ho.of_nob (S := S.own mb)).trans ho2
  go_wp2_with (go_at_call 56; refine (present_any _ _ hb.1 hb.2).mono ?_; rintro e w' ⟨rfl, rfl⟩)
  go_ret
  exact ⟨kb, kn, K, rfl, h2, hG3, hO2⟩

set_option maxHeartbeats 1000000 in
theorem writeDenied_any (w : World) (mb : Nat) (S : MS) (h : Mach w mb S) (g a v : Int) (r : Nat) (h0 : 0 ≤ a) (h1 : a < 512) (hv0 : 0 ≤ v) (hv1 : v ≤ 65535) (hd : Good S g (a / 8) r) (hx : pres (S.M.ent r (a / 8).toNat) = true) (hw : wrib (S.M.ent r (a / 8).toNat) = false) :
    Calls Tryz.prog 29 #[pt mb, .int .i64 g, .int .i64 a, .int .i64 v] w fun e w' => ∃ kb kn K, e = .returned (.int .i64 8) ∧ Mach w' mb (S.cached kb kn K) ∧ Goes w.heap.size S kb kn K (g, a / 8) (S.M.ent r (a / 8).toNat) ∧ Only (S.own mb) w w' := by
  have hb := ent_bd h.mem r (a / 8).toNat
  have hg64 := hd.g64
  have HW := hid (checkW_ok h0 h1 hv0 hv1 hd.G)
  go_enter Tryz.func29, Tryz.ntmps29
  go_wp2_with fail
  refine (checkWord_any _ mb S h g a v hg64).mono ?_
  rintro e w1 ⟨rfl, ho⟩
  rw [HW.out]
  have h1' := h.nob ho
  go_wp2_with fail
  refine (mwalk_any _ mb S h1' g (a / 8) r hd.g64 hd.G hd.p0 hd.p1 hd.root hd.tab hd.K hd.kn).mono ?_
  rintro e w2 ⟨kb, kn, K, rfl, h2, hG2, ho2⟩
  have hG3 : Goes w.heap.size S kb kn K (g, a / 8) (S.M.ent r (a / 8).toNat) := ⟨fun b hb => (hG2.kb b hb).imp id (fun x => Nat.le_trans ho.size x), hG2.kn, hG2.K⟩
  have hO2 := (ho.of_nob (S := S.own mb)).trans ho2
  go_wp2_with (first | (go_at_call 56; refine (present_any _ _ hb.1 hb.2).mono ?_; rintro e w' ⟨rfl, rfl⟩) | (go_at_call 65; refine (writable_any _ _ hb.1 hb.2).mono ?_; rintro e w' ⟨rfl, rfl⟩))
  go_ret
  exact ⟨kb, kn, K, rfl, h2, hG3, hO2⟩

set_option maxHeartbeats 1000000 in
theorem writeGood_any (w : World) (mb : Nat) (S : MS) (h : Mach w mb S) (g a v : Int) (r : Nat) (h0 : 0 ≤ a) (h1 : a < 512) (hv0 : 0 ≤ v) (hv1 : v ≤ 65535) (hd : Good S g (a / 8) r) (hx : pres (S.M.ent r (a / 8).toNat) = true) (hw : wrib (S.M.ent r (a / 8).toNat) = true) (hn : numb (S.M.ent r (a / 8).toNat) < S.M.n) :
    Calls Tryz.prog 29 #[pt mb, .int .i64 g, .int .i64 a, .int .i64 v] w fun e w' => ∃ kb kn K, e = .returned (.int .i64 0) ∧ Mach w' mb ((S.cached kb kn K).withM (S.M.setW (numb (S.M.ent r (a / 8).toNat)) (a.toNat % 8) v)) ∧ Goes w.heap.size S kb kn K (g, a / 8) (S.M.ent r (a / 8).toNat) ∧ Only (S.own mb) w w' := by
  have hb := ent_bd h.mem r (a / 8).toNat
  have hg64 := hd.g64
  have HW := hid (checkW_ok h0 h1 hv0 hv1 hd.G)
  go_enter Tryz.func29, Tryz.ntmps29
  go_wp2_with fail
  refine (checkWord_any _ mb S h g a v hg64).mono ?_
  rintro e w1 ⟨rfl, ho⟩
  rw [HW.out]
  have h1' := h.nob ho
  go_wp2_with fail
  refine (mwalk_any _ mb S h1' g (a / 8) r hd.g64 hd.G hd.p0 hd.p1 hd.root hd.tab hd.K hd.kn).mono ?_
  rintro e w2 ⟨kb, kn, K, rfl, h2, hG2, ho2⟩
  have hG3 : Goes w.heap.size S kb kn K (g, a / 8) (S.M.ent r (a / 8).toNat) := ⟨fun b hb => (hG2.kb b hb).imp id (fun x => Nat.le_trans ho.size x), hG2.kn, hG2.K⟩
  have hO2 := (ho.of_nob (S := S.own mb)).trans ho2
  go_wp2_with (first | (go_at_call 56; refine (present_any _ _ hb.1 hb.2).mono ?_; rintro e w' ⟨rfl, rfl⟩) | (go_at_call 65; refine (writable_any _ _ hb.1 hb.2).mono ?_; rintro e w' ⟨rfl, rfl⟩) | (go_at_call 66; refine (msetWord_any _ mb _ h2 _ a v h0 h1 hv0 hv1 hb hn).mono ?_; rintro e w3 ⟨rfl, hM3, ho3⟩))
  go_ret
  exact ⟨kb, kn, K, rfl, hM3, hG3, hO2.after ho3 (fun b _ hb => Or.inr (Or.inr (Or.inl hb)))⟩
end Go.Proofs.YtfcepnhknmbaaaaGreat

/- The contract of Root. -/
namespace Go.Proofs.YtfcepnhknmbaaaaGreat
open Go.RowKit Go.Deep
open Go.Maps (Keyed)

def isRt (p : Int) : Bool := decide (-1 ≤ p ∧ p < 64)
def MS.rooted (S : MS) (g p : Int) : MS := { S with Rt := fun j => if j = g then p else S.Rt j }

theorem isRt_none : isRt (-1) = true := rfl
theorem isRt_page {p : Int} (h : p ≠ -1) : isRt p = isPg p := by
  simp only [isRt, isPg]
  congr 1
  apply propext
  omega

set_option maxHeartbeats 400000 in
theorem rootBad_any (w : World) (mb : Nat) (S : MS) (h : Mach w mb S) (g p : Int) (hg : In64 g) (hb : checkE S g (isRt p) ≠ 0) :
    Calls Tryz.prog 33 #[pt mb, .int .i64 g, .int .i64 p] w fun e w' => e = .returned (.int .i64 (checkE S g (isRt p))) ∧ Only Nob w w' := by
  by_cases hp : p = -1
  · subst hp
    rw [isRt_none] at hb ⊢
    have hb' : (checkE S g true != 0) = true := by simp [hb]
    clear hb
    go_enter Tryz.func33, Tryz.ntmps33
    go_wp2_with fail
    refine (check_any _ mb S h g hg _).mono ?_
    rintro e w1 ⟨rfl, ho⟩
    go_wp2_with fail
    go_ret
    exact ⟨rfl, ho⟩
  · rw [isRt_page hp] at hb ⊢
    have hb' : (checkE S g (isPg p) != 0) = true := by simp [hb]
    have hp' : (p == -1) = false := by simp [hp]
    clear hb
    go_enter Tryz.func33, Tryz.ntmps33
    go_wp2_with fail
    refine (isPage_any _ p).mono ?_
    rintro e w1 ⟨rfl, rfl⟩
    go_wp2_with fail
    refine (check_any _ mb S h g hg _).mono ?_
    rintro e w1 ⟨rfl, ho⟩
    go_wp2_with fail
    go_ret
    exact ⟨rfl, ho⟩

theorem put_root (S : MS) {g : Int} {r : Nat} (p : Int) (hG : S.G g = some r) : put S.gst g (some (rsd S.mp r p)) = fun j => (S.G j).map (fun r => rsd S.mp r (if j = g then p else S.Rt j)) := by
  funext j
  simp only [put, MS.gst]
  split
  · rename_i e
    rw [e, hG]
    rfl
  · rfl

set_option maxHeartbeats 1000000 in
theorem rootGood_any (w : World) (mb : Nat) (S : MS) (h : Mach w mb S) (g p : Int) (r : Nat) (hg : In64 g) (hG : S.G g = some r) (hp : isRt p = true) (hn : S.cnt < maxLen) :
    Calls Tryz.prog 33 #[pt mb, .int .i64 g, .int .i64 p] w fun e w' => e = .returned (.int .i64 0) ∧ Mach w' mb (S.rooted g p) ∧ Only (S.own mb) w w' := by
  have hck : ∀ b, b = true → checkE S g b = 0 := fun b hb => by simp [checkE, hG, hb]
  have HG := hid hG
  have HN := hid hn
  have HGS : Hid (S.gst g = some (rsd S.mp r (S.Rt g))) := by simp [Hid, MS.gst, hG]
  have step : ∀ w1, Only Nob w w1 → ∃ w3, (Instr.mapUpdate 64 (.map (some S.gb)) (.int .i64 g) (rsd S.mp r p)).run Tryz.prog (w1.alloc (.cells #[pt S.mp, .int .i64 r, .int .i64 p] 95)).drew = .ok () w3 ∧ Mach w3 mb (S.rooted g p) ∧ Only (S.own mb) w w3 := fun w1 ho => by
    have hB := h.nob (ho.alloc (.cells #[pt S.mp, .int .i64 r, .int .i64 p] 95)).drew
    obtain ⟨w3, hrun, hm3, ho3⟩ := hB.gst.store (i := g) law3 Tryz.underlying64 HN.out kvG_inj (key3 hg) (rsd S.mp r p)
    refine ⟨w3, hrun, ?_, ?_⟩
    · rw [HGS.out, put_root S p HG.out] at hm3
      exact hB.turnG (G' := S.G) (c' := S.cnt) (Rt' := fun j => if j = g then p else S.Rt j) hm3.tight ho3
    · exact (((ho.of_nob (S := S.own mb)).alloc _).drew).after ho3 (fun b _ hb => Or.inr (Or.inr (Or.inr (Or.inl hb))))
  have HS := hid step
  clear hG hn step
  by_cases hp1 : p = -1
  · subst hp1
    have HC := hid (hck true rfl)
    clear hck hp
    go_enter Tryz.func33, Tryz.ntmps33
    go_wp2_with fail
    refine (check_any _ mb S h g hg _).mono ?_
    rintro e w1 ⟨rfl, ho⟩
    rw [HC.out]
    have h1 := h.nob ho
    have hc1 := h1.c1
    have hrun := h1.gst.look (i := g) law3 Tryz.underlying64 (zero77 w1) (key3 hg)
    simp only [MS.gst, HG.out, Option.map_some, Option.getD_some] at hrun
    obtain ⟨w3, hst, hM3, hO3⟩ := HS.out w1 ho
    have hlt := h1.lt
    go_wp2_with fail
    go_region
    all_goals
      go_wp2
      go_ret
      exact ⟨rfl, hM3, hO3⟩
  · have HC := hid (hck (isPg p) (by rw [← isRt_page hp1]; exact hp))
    have hp' : (p == -1) = false := by simp [hp1]
    clear hck hp
    go_enter Tryz.func33, Tryz.ntmps33
    go_wp2_with fail
    refine (isPage_any _ p).mono ?_
    rintro e w1 ⟨rfl, rfl⟩
    go_wp2_with fail
    refine (check_any _ mb S h g hg _).mono ?_
    rintro e w1 ⟨rfl, ho⟩
    rw [HC.out]
    have h1 := h.nob ho
    have hc1 := h1.c1
    have hrun := h1.gst.look (i := g) law3 Tryz.underlying64 (zero77 w1) (key3 hg)
    simp only [MS.gst, HG.out, Option.map_some, Option.getD_some] at hrun
    obtain ⟨w3, hst, hM3, hO3⟩ := HS.out w1 ho
    have hlt := h1.lt
    go_wp2_with fail
    go_region
    all_goals
      go_wp2
      go_ret
      exact ⟨rfl, hM3, hO3⟩
end Go.Proofs.YtfcepnhknmbaaaaGreat
