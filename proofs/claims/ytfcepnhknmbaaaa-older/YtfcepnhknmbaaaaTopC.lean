/- The contract of Map. -/
import Derived.Test.YtfcepnhknmbaaaaMachWords
namespace Go.Proofs.Ytfcepnhknmbaaaa
open Go.RowKit Go.Deep
open Go.Maps (Keyed)

set_option maxHeartbeats 400000 in
theorem mapBad_any (w : World) (mb : Nat) (S : MS) (h : Mach w mb S) (g p : Int) (b : Bool) (hg : In64 g) (hb : checkE S g (isPg p) ≠ 0) :
    Calls Try.prog 14 #[pt mb, .int .i64 g, .int .i64 p, .bool b] w fun e w' => e = .returned (.int .i64 (checkE S g (isPg p))) ∧ Only Nob w w' := by
  have hb' : (checkE S g (isPg p) != 0) = true := by simp [hb]
  clear hb
  go_enter Try.func14, Try.ntmps14
  go_wp2_with fail
  refine (isPage_any _ p).mono ?_
  rintro e w1 ⟨rfl, rfl⟩
  go_wp2_with fail
  refine (check_any _ mb S h g hg _).mono ?_
  rintro e w1 ⟨rfl, ho⟩
  go_wp2_with fail
  go_ret
  exact ⟨rfl, ho⟩

/-- What Map asks of a guest's page. -/
structure Good (S : MS) (g p : Int) (r : Nat) : Prop where
  g64 : In64 g
  G : S.G g = some r
  p0 : 0 ≤ p
  p1 : p < 64
  root : r < S.M.n
  used : 1 ≤ S.M.U r
  tab : pres (S.M.tbl r p.toNat) = true → numb (S.M.tbl r p.toNat) < S.M.n
  K : ∀ x, S.K (g, p) = some x → x = S.M.ent r p.toNat
  kn : S.kn < maxLen

theorem Good.check {S : MS} {g p : Int} {r : Nat} (h : Good S g p r) : checkE S g (isPg p) = 0 := by
  simp [checkE, h.G, isPg, h.p0, h.p1]

set_option maxHeartbeats 1000000 in
theorem mapTaken_any (w : World) (mb : Nat) (S : MS) (h : Mach w mb S) (g p : Int) (r : Nat) (b : Bool) (hd : Good S g p r) (hx : pres (S.M.ent r p.toNat) = true) :
    Calls Try.prog 14 #[pt mb, .int .i64 g, .int .i64 p, .bool b] w fun e w' => ∃ kb kn K, e = .returned (.int .i64 6) ∧ Mach w' mb (S.cached kb kn K) ∧ Goes w.heap.size S kb kn K (g, p) (S.M.ent r p.toNat) ∧ Only (S.own mb) w w' := by
  have hb := ent_bd h.mem r p.toNat
  go_enter Try.func14, Try.ntmps14
  go_wp2_with fail
  refine (isPage_any _ p).mono ?_
  rintro e w1 ⟨rfl, rfl⟩
  go_wp2_with fail
  refine (check_any _ mb S h g hd.g64 _).mono ?_
  rintro e w1 ⟨rfl, ho⟩
  rw [hd.check]
  have h1 := h.nob ho
  go_wp2_with fail
  refine (mwalk_any _ mb S h1 g p r hd.g64 hd.G hd.p0 hd.p1 hd.root hd.tab hd.K hd.kn).mono ?_
  rintro e w2 ⟨kb, kn, K, rfl, h2, hG2, ho2⟩
  go_wp2_with (go_at_call 34; refine (present_any _ _ hb.1 hb.2).mono ?_; rintro e w' ⟨rfl, rfl⟩)
  go_ret
  exact ⟨kb, kn, K, rfl, h2, ⟨fun b hb => (hG2.kb b hb).imp id (fun x => Nat.le_trans ho.size x), hG2.kn, hG2.K⟩, (ho.of_nob (S := S.own mb)).trans ho2⟩

set_option maxHeartbeats 1000000 in
theorem mapFullHad_any (w : World) (mb : Nat) (S : MS) (h : Mach w mb S) (g p : Int) (r : Nat) (b : Bool) (hd : Good S g p r) (hx : pres (S.M.ent r p.toNat) = false)
  (hpt : pres (S.M.tbl r p.toNat) = true) (hf : S.M.free < 1) :
    Calls Try.prog 14 #[pt mb, .int .i64 g, .int .i64 p, .bool b] w fun e w' => ∃ kb kn K, e = .returned (.int .i64 3) ∧ Mach w' mb (S.cached kb kn K) ∧ Goes w.heap.size S kb kn K (g, p) (S.M.ent r p.toNat) ∧ Only (S.own mb) w w' := by
  have hb := ent_bd h.mem r p.toNat
  have hfl := freeTo_le S.M.U S.M.n
  change S.M.free ≤ S.M.n at hfl
  have hle := h.mem.le
  go_enter Try.func14, Try.ntmps14
  go_wp2_with fail
  refine (isPage_any _ p).mono ?_
  rintro e w1 ⟨rfl, rfl⟩
  go_wp2_with fail
  refine (check_any _ mb S h g hd.g64 _).mono ?_
  rintro e w1 ⟨rfl, ho⟩
  rw [hd.check]
  have h1 := h.nob ho
  go_wp2_with fail
  refine (mwalk_any _ mb S h1 g p r hd.g64 hd.G hd.p0 hd.p1 hd.root hd.tab hd.K hd.kn).mono ?_
  rintro e w2 ⟨kb, kn, K, rfl, h2, hG2, ho2⟩
  have c1 : w2.cell? ⟨mb, 1, none⟩ = some (.map (some S.gb)) := h2.c1
  have hgm : MapIs Try.prog 3 kvG w2 S.gb S.cnt S.cnt S.gst := h2.gst
  have hrun := hgm.look (i := g) law3 Try.underlying78 (zero77 w2) (key3 hd.g64)
  simp only [MS.gst, hd.G, Option.map_some, Option.getD_some] at hrun
  have hfld := fun w => fld0 w S.mp r (S.Rt g)
  have h3 := h2.nob (((Only.refl Nob w2).alloc (.cells #[pt S.mp, .int .i64 r] 75)).drew)
  have c3 : ((w2.alloc (.cells #[pt S.mp, .int .i64 r] 75)).drew).cell? ⟨mb, 0, none⟩ = some (pt S.mp) := h3.c0
  have hlt := h2.lt
  have hG3 : Goes w.heap.size S kb kn K (g, p) (S.M.ent r p.toNat) := ⟨fun b hb => (hG2.kb b hb).imp id (fun x => Nat.le_trans ho.size x), hG2.kn, hG2.K⟩
  have hO2 := (ho.of_nob (S := S.own mb)).trans ho2
  have hm3 : Mem ((w2.alloc (.cells #[pt S.mp, .int .i64 r] 75)).drew) S.mp S.fb S.M := h3.mem
  have hroot := hd.root
  have hp0 := hd.p0
  have hp1 := hd.p1
  clear hgm hG2 ho h1 h
  go_wp2_with (go_at_call 34; refine (present_any _ _ hb.1 hb.2).mono ?_; rintro e w' ⟨rfl, rfl⟩)
  go_cut [40] (fun s wx => s = .bool true ∧ Mach wx mb (S.cached kb kn K) ∧ Only (S.own mb) w wx ∧ wx.cell? ⟨w2.heap.size, 0, none⟩ = some (pt S.mp) ∧ wx.cell? ⟨w2.heap.size, 1, none⟩ = some (.int .i64 r))
  case first =>
    go_region_with (first
      | (go_at_call 37; refine (memFree_any (mp := S.mp) (fb := S.fb) (M := S.M) _ ?_).mono ?_; (first | exact hm3 | exact hm4); rintro e w' ⟨rfl, rfl⟩)
      | (go_at_call 38; refine (missing_any (mp := S.mp) (fb := S.fb) (M := S.M) _ r p hm3 hroot hp0 hp1).mono ?_; rintro e w4 ⟨rfl, ho4⟩; rw [hpt]; have b0 := ho4.laidD (fun h => h) 0; have b1 := ho4.laidD (fun h => h) 1; have h4 := h3.nob ho4; have hm4 : Mem w4 S.mp S.fb S.M := h4.mem; have c4 : w4.cell? ⟨mb, 0, none⟩ = some (pt S.mp) := h4.c0; have c41 : w4.cell? ⟨mb, 1, none⟩ = some (.map (some S.gb)) := h4.c1))
    all_goals
      go_wp2_with fail
      go_meet
      case rel => exact ⟨by simp [IntKind.wrap_i64]; omega, h4, (hO2.alloc _).drew.after ho4 (fun _ _ h => h.elim), b0, b1⟩
  case rest =>
    obtain ⟨rfl, hC, hOC, b0, b1⟩ := hcut
    clear h2 h3 hm3 c3 hrun c1
    go_wp2
    go_ret
    exact ⟨kb, kn, K, rfl, hC, hG3, hOC⟩

set_option maxHeartbeats 1000000 in
theorem mapFullNew_any (w : World) (mb : Nat) (S : MS) (h : Mach w mb S) (g p : Int) (r : Nat) (b : Bool) (hd : Good S g p r) (hx : pres (S.M.ent r p.toNat) = false)
  (hpt : pres (S.M.tbl r p.toNat) = false) (hf : S.M.free < 2) :
    Calls Try.prog 14 #[pt mb, .int .i64 g, .int .i64 p, .bool b] w fun e w' => ∃ kb kn K, e = .returned (.int .i64 3) ∧ Mach w' mb (S.cached kb kn K) ∧ Goes w.heap.size S kb kn K (g, p) (S.M.ent r p.toNat) ∧ Only (S.own mb) w w' := by
  have hb := ent_bd h.mem r p.toNat
  have hfl := freeTo_le S.M.U S.M.n
  change S.M.free ≤ S.M.n at hfl
  have hle := h.mem.le
  go_enter Try.func14, Try.ntmps14
  go_wp2_with fail
  refine (isPage_any _ p).mono ?_
  rintro e w1 ⟨rfl, rfl⟩
  go_wp2_with fail
  refine (check_any _ mb S h g hd.g64 _).mono ?_
  rintro e w1 ⟨rfl, ho⟩
  rw [hd.check]
  have h1 := h.nob ho
  go_wp2_with fail
  refine (mwalk_any _ mb S h1 g p r hd.g64 hd.G hd.p0 hd.p1 hd.root hd.tab hd.K hd.kn).mono ?_
  rintro e w2 ⟨kb, kn, K, rfl, h2, hG2, ho2⟩
  have c1 : w2.cell? ⟨mb, 1, none⟩ = some (.map (some S.gb)) := h2.c1
  have hgm : MapIs Try.prog 3 kvG w2 S.gb S.cnt S.cnt S.gst := h2.gst
  have hrun := hgm.look (i := g) law3 Try.underlying78 (zero77 w2) (key3 hd.g64)
  simp only [MS.gst, hd.G, Option.map_some, Option.getD_some] at hrun
  have hfld := fun w => fld0 w S.mp r (S.Rt g)
  have h3 := h2.nob (((Only.refl Nob w2).alloc (.cells #[pt S.mp, .int .i64 r] 75)).drew)
  have c3 : ((w2.alloc (.cells #[pt S.mp, .int .i64 r] 75)).drew).cell? ⟨mb, 0, none⟩ = some (pt S.mp) := h3.c0
  have hlt := h2.lt
  have hG3 : Goes w.heap.size S kb kn K (g, p) (S.M.ent r p.toNat) := ⟨fun b hb => (hG2.kb b hb).imp id (fun x => Nat.le_trans ho.size x), hG2.kn, hG2.K⟩
  have hO2 := (ho.of_nob (S := S.own mb)).trans ho2
  have hm3 : Mem ((w2.alloc (.cells #[pt S.mp, .int .i64 r] 75)).drew) S.mp S.fb S.M := h3.mem
  have hroot := hd.root
  have hp0 := hd.p0
  have hp1 := hd.p1
  clear hgm hG2 ho h1 h
  go_wp2_with (go_at_call 34; refine (present_any _ _ hb.1 hb.2).mono ?_; rintro e w' ⟨rfl, rfl⟩)
  go_cut [40] (fun s wx => s = .bool true ∧ Mach wx mb (S.cached kb kn K) ∧ Only (S.own mb) w wx ∧ wx.cell? ⟨w2.heap.size, 0, none⟩ = some (pt S.mp) ∧ wx.cell? ⟨w2.heap.size, 1, none⟩ = some (.int .i64 r))
  case first =>
    go_region_with (first
      | (go_at_call 37; refine (memFree_any (mp := S.mp) (fb := S.fb) (M := S.M) _ ?_).mono ?_; (first | exact hm3 | exact hm4); rintro e w' ⟨rfl, rfl⟩)
      | (go_at_call 38; refine (missing_any (mp := S.mp) (fb := S.fb) (M := S.M) _ r p hm3 hroot hp0 hp1).mono ?_; rintro e w4 ⟨rfl, ho4⟩; rw [hpt]; have b0 := ho4.laidD (fun h => h) 0; have b1 := ho4.laidD (fun h => h) 1; have h4 := h3.nob ho4; have hm4 : Mem w4 S.mp S.fb S.M := h4.mem; have c4 : w4.cell? ⟨mb, 0, none⟩ = some (pt S.mp) := h4.c0; have c41 : w4.cell? ⟨mb, 1, none⟩ = some (.map (some S.gb)) := h4.c1))
    all_goals
      go_wp2_with fail
      go_meet
      case rel => exact ⟨by simp [IntKind.wrap_i64]; omega, h4, (hO2.alloc _).drew.after ho4 (fun _ _ h => h.elim), b0, b1⟩
  case rest =>
    obtain ⟨rfl, hC, hOC, b0, b1⟩ := hcut
    clear h2 h3 hm3 c3 hrun c1
    go_wp2
    go_ret
    exact ⟨kb, kn, K, rfl, hC, hG3, hOC⟩

end Go.Proofs.Ytfcepnhknmbaaaa
