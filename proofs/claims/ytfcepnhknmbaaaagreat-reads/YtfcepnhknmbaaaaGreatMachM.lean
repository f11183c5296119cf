/- A machine as it lies in memory ('Mach': its struct, its memory, its guests' map, its cache), with laws on what turns; and the contracts of Free, isPage, isAddress, check. -/
import Derived.Test.YtfcepnhknmbaaaaGreatCacheWalks
namespace Go.Proofs.YtfcepnhknmbaaaaGreat
open Go.RowKit Go.Deep
open Go.Maps (Keyed)

/-- What a machine holds: its frames; where its parts lie; its guests' roots; the last number; what the cache keeps. -/
structure MS where
  M : Mm
  mp : Nat
  fb : Nat
  gb : Nat
  kb : Option Nat
  G : Int → Option Nat
  cnt : Nat
  last : Nat
  K : Int × Int → Option Int
  kn : Nat
  Rt : Int → Int

/-- What the machine keeps of a guest: its space, its root page. -/
abbrev rsd (mp r : Nat) (x : Int) : Value := .agg #[pt mp, .int .i64 r, .int .i64 x]
theorem zero77 (w : World) : (zeroValue 95).run Tryz.prog w = .ok (.agg #[.pointer none, .int .i64 0, .int .i64 0]) w := by kernel_rfl

def MS.cell (S : MS) (i : Nat) : Value :=
  if i = 0 then pt S.mp else if i = 1 then .map (some S.gb) else if i = 2 then .int .i64 S.last else .map S.kb
def MS.gst (S : MS) (i : Int) : Option Value := (S.G i).map (fun r => rsd S.mp r (S.Rt i))
def MS.kept (S : MS) (i : Int × Int) : Option Value := (S.K i).map (fun x => .int .u16 x)
theorem fld0 (w : World) (mp r : Nat) (x : Int) : (Instr.field 95 (rsd mp r x) 0).run Tryz.prog w = .ok (sp mp r) w := by kernel_rfl
theorem fld1 (w : World) (mp r : Nat) (x : Int) : (Instr.field 95 (rsd mp r x) 1).run Tryz.prog w = .ok (.int .i64 x) w := by kernel_rfl

/-- A block of the machine's own. -/
def MS.own (mb : Nat) (S : MS) (b : Nat) : Prop := b = mb ∨ b = S.mp ∨ b = S.fb ∨ b = S.gb ∨ S.kb = some b

structure Mach (w : World) (mb : Nat) (S : MS) : Prop where
  row : ∃ t, w.rowIs mb t 4 S.cell
  mem : Mem w S.mp S.fb S.M
  gst : MapIs Tryz.prog 3 kvG w S.gb S.cnt S.cnt S.gst
  kpt : Kept w S.kb S.kn S.kept
  n1 : mb ≠ S.mp
  n2 : mb ≠ S.fb
  n3 : mb ≠ S.gb
  n4 : S.kb ≠ some mb
  n5 : S.mp ≠ S.gb
  n6 : S.fb ≠ S.gb
  n7 : S.kb ≠ some S.mp
  n8 : S.kb ≠ some S.fb
  n9 : S.kb ≠ some S.gb
  kz : S.kb = none → S.kn = 0

namespace Mach
variable {w w' : World} {mb : Nat} {S : MS}

theorem c0 (h : Mach w mb S) : w.cell? ⟨mb, 0, none⟩ = some (pt S.mp) := by obtain ⟨t, r⟩ := h.row; exact r.cell (by omega)
theorem c1 (h : Mach w mb S) : w.cell? ⟨mb, 1, none⟩ = some (.map (some S.gb)) := by obtain ⟨t, r⟩ := h.row; exact r.cell (by omega)
theorem c2 (h : Mach w mb S) : w.cell? ⟨mb, 2, none⟩ = some (.int .i64 S.last) := by obtain ⟨t, r⟩ := h.row; exact r.cell (by omega)
theorem c3 (h : Mach w mb S) : w.cell? ⟨mb, 3, none⟩ = some (.map S.kb) := by obtain ⟨t, r⟩ := h.row; exact r.cell (by omega)
theorem fz (h : Mach w mb S) (i : Nat) : w.frozen? ⟨mb, i, none⟩ = false := by obtain ⟨t, r⟩ := h.row; exact r.frozen i
theorem lt (h : Mach w mb S) : mb < w.heap.size := by obtain ⟨t, r⟩ := h.row; exact r.lt

theorem own_lt (h : Mach w mb S) {b : Nat} (hb : S.own mb b) : b < w.heap.size := by
  rcases hb with rfl | rfl | rfl | rfl | hk
  · exact h.lt
  · exact h.mem.ptr_lt
  · exact h.mem.row_lt
  · exact h.gst.lt
  · have := h.kpt
    rw [hk] at this
    obtain ⟨c, hm⟩ := this
    exact hm.lt

theorem kept_only {T : Nat → Prop} {kb : Option Nat} {n : Nat} {F : Int × Int → Option Value} (h : Kept w kb n F) (o : Only T w w') (ht : ∀ b, kb = some b → ¬ T b) : Kept w' kb n F := by
  cases kb with
  | none => exact h
  | some b => obtain ⟨c, hm⟩ := h; exact ⟨c, hm.only o (ht b rfl)⟩

theorem only {T : Nat → Prop} (h : Mach w mb S) (o : Only T w w') (ht : ∀ b, S.own mb b → ¬ T b) : Mach w' mb S := by
  obtain ⟨t, r⟩ := h.row
  exact ⟨⟨t, o.row r (ht _ (Or.inl rfl))⟩, h.mem.only o (ht _ (by simp [MS.own])) (ht _ (by simp [MS.own])), h.gst.only o (ht _ (by simp [MS.own])),
    kept_only h.kpt o (fun b hb => ht b (by simp [MS.own, hb])), h.n1, h.n2, h.n3, h.n4, h.n5, h.n6, h.n7, h.n8, h.n9, h.kz⟩

theorem nob (h : Mach w mb S) (o : Only Nob w w') : Mach w' mb S := h.only o (fun _ _ h => h)

/-- The frames have turned. -/
theorem turnM {M' : Mm} (h : Mach w mb S) (hM : Mem w' S.mp S.fb M') (o : Only (One S.fb) w w') : Mach w' mb { S with M := M' } := by
  obtain ⟨t, r⟩ := h.row
  exact ⟨⟨t, o.row r h.n2⟩, hM, h.gst.only o (fun e => h.n6 e.symm), kept_only h.kpt o (fun b hb e => h.n8 (by rw [hb, e])), h.n1, h.n2, h.n3, h.n4, h.n5, h.n6, h.n7, h.n8, h.n9, h.kz⟩

/-- The guests have turned. -/
theorem turnG {G' : Int → Option Nat} {c' : Nat} {Rt' : Int → Int} (h : Mach w mb S) (hG : MapIs Tryz.prog 3 kvG w' S.gb c' c' (fun i => (G' i).map (fun r => rsd S.mp r (Rt' i)))) (o : Only (One S.gb) w w') : Mach w' mb { S with G := G', cnt := c', Rt := Rt' } := by
  obtain ⟨t, r⟩ := h.row
  exact ⟨⟨t, o.row r h.n3⟩, h.mem.only o h.n5 h.n6, hG, kept_only h.kpt o (fun b hb e => h.n9 (by rw [hb, e])), h.n1, h.n2, h.n3, h.n4, h.n5, h.n6, h.n7, h.n8, h.n9, h.kz⟩

/-- The cache has turned, in its place. -/
theorem turnK {K' : Int × Int → Option Int} {n' : Nat} (h : Mach w mb S) (hK : Kept w' S.kb n' (fun i => (K' i).map (fun x => .int .u16 x))) (hz : S.kb = none → n' = 0) (o : Only (OptOne S.kb) w w') : Mach w' mb { S with K := K', kn := n' } := by
  obtain ⟨t, r⟩ := h.row
  exact ⟨⟨t, o.row r h.n4⟩, h.mem.only o h.n7 h.n8, h.gst.only o h.n9, hK, h.n1, h.n2, h.n3, h.n4, h.n5, h.n6, h.n7, h.n8, h.n9, hz⟩
end Mach

def isPg (p : Int) : Bool := decide (0 ≤ p ∧ p < 64)
def isAd (p : Int) : Bool := decide (0 ≤ p ∧ p < 512)

set_option maxHeartbeats 400000 in
theorem isPage_any (w : World) (p : Int) : Calls Tryz.prog 54 #[.int .i64 p] w fun e w' => e = .returned (.bool (isPg p)) ∧ w = w' := by
  by_cases h0 : 0 ≤ p
  · by_cases h1 : p < 64
    · have HE : Hid (isPg p = true) := by simp [Hid, isPg, h0, h1]
      go_enter Tryz.func54, Tryz.ntmps54
      go_wp2
      go_ret
      exact ⟨by rw [HE.out]; rfl, rfl⟩
    · have HE : Hid (isPg p = false) := by simp [Hid, isPg, h0, h1]
      go_enter Tryz.func54, Tryz.ntmps54
      go_wp2
      go_ret
      exact ⟨by rw [HE.out]; rfl, rfl⟩
  · have HE : Hid (isPg p = false) := by simp [Hid, isPg, h0]
    go_enter Tryz.func54, Tryz.ntmps54
    go_wp2
    go_ret
    exact ⟨by rw [HE.out]; rfl, rfl⟩

set_option maxHeartbeats 400000 in
theorem isAddress_any (w : World) (p : Int) : Calls Tryz.prog 62 #[.int .i64 p] w fun e w' => e = .returned (.bool (isAd p)) ∧ w = w' := by
  by_cases h0 : 0 ≤ p
  · by_cases h1 : p < 512
    · have HE : Hid (isAd p = true) := by simp [Hid, isAd, h0, h1]
      go_enter Tryz.func62, Tryz.ntmps62
      go_wp2
      go_ret
      exact ⟨by rw [HE.out]; rfl, rfl⟩
    · have HE : Hid (isAd p = false) := by simp [Hid, isAd, h0, h1]
      go_enter Tryz.func62, Tryz.ntmps62
      go_wp2
      go_ret
      exact ⟨by rw [HE.out]; rfl, rfl⟩
  · have HE : Hid (isAd p = false) := by simp [Hid, isAd, h0]
    go_enter Tryz.func62, Tryz.ntmps62
    go_wp2
    go_ret
    exact ⟨by rw [HE.out]; rfl, rfl⟩

set_option maxHeartbeats 400000 in
theorem free_any (w : World) (mb : Nat) (S : MS) (h : Mach w mb S) : Calls Tryz.prog 17 #[pt mb] w fun e w' => e = .returned (.int .i64 S.M.free) ∧ w = w' := by
  have hc := h.c0
  go_enter Tryz.func17, Tryz.ntmps17
  go_wp2_with (go_at_call 46; refine (memFree_any _ h.mem).mono ?_; rintro e w' ⟨rfl, rfl⟩)
  go_ret
  exact ⟨rfl, rfl⟩

/-- What check answers. -/
def checkE (S : MS) (g : Int) (b : Bool) : Int := if (S.G g).isSome then (if b then 0 else 5) else 4

set_option maxHeartbeats 400000 in
theorem check_any (w : World) (mb : Nat) (S : MS) (h : Mach w mb S) (g : Int) (hg : In64 g) (b : Bool) :
    Calls Tryz.prog 53 #[pt mb, .int .i64 g, .bool b] w fun e w' => e = .returned (.int .i64 (checkE S g b)) ∧ Only Nob w w' := by
  have hc := h.c1
  have hrun := h.gst.look_ok (i := g) law3 Tryz.underlying64 (zero77 w) (key3 hg)
  cases hG : S.G g with
  | none =>
    have HE : Hid (checkE S g b = 4) := by simp [Hid, checkE, hG]
    simp only [MS.gst, hG, Option.map_none, Option.getD_none, Option.isSome_none] at hrun
    go_enter Tryz.func53, Tryz.ntmps53
    go_wp2
    go_ret
    exact ⟨by rw [HE.out]; rfl, (Only.refl _ _).alloc _⟩
  | some r =>
    simp only [MS.gst, hG, Option.map_some, Option.getD_some, Option.isSome_some] at hrun
    cases b with
    | true =>
      have HE : Hid (checkE S g true = 0) := by simp [Hid, checkE, hG]
      go_enter Tryz.func53, Tryz.ntmps53
      go_wp2
      go_ret
      exact ⟨by rw [HE.out]; rfl, (Only.refl _ _).alloc _⟩
    | false =>
      have HE : Hid (checkE S g false = 5) := by simp [Hid, checkE, hG]
      go_enter Tryz.func53, Tryz.ntmps53
      go_wp2
      go_ret
      exact ⟨by rw [HE.out]; rfl, (Only.refl _ _).alloc _⟩
end Go.Proofs.YtfcepnhknmbaaaaGreat

/- The contract of a machine's walk: the entry of a page, by the tables or by the cache. -/
namespace Go.Proofs.YtfcepnhknmbaaaaGreat
open Go.RowKit Go.Deep
open Go.Maps (Keyed)

/-- The same machine but for its cache. -/
def MS.cached (S : MS) (kb : Option Nat) (kn : Nat) (K : Int × Int → Option Int) : MS := { S with kb := kb, kn := kn, K := K }

/-- What a walk may do to the cache. -/
structure Goes (B : Nat) (S : MS) (kb : Option Nat) (kn : Nat) (K : Int × Int → Option Int) (i : Int × Int) (x : Int) : Prop where
  kb : ∀ b, kb = some b → S.kb = some b ∨ B ≤ b
  kn : kn ≤ S.kn + 1
  K : ∀ j y, K j = some y → S.K j = some y ∨ (j = i ∧ y = x ∧ pres y = true)

theorem Goes.refl (B : Nat) (S : MS) (i : Int × Int) (x : Int) : Goes B S S.kb S.kn S.K i x := ⟨fun _ h => Or.inl h, by omega, fun _ _ h => Or.inl h⟩

theorem Goes.put {B : Nat} {S : MS} {kb : Option Nat} {kn : Nat} {i : Int × Int} {x : Int} (a1 : ∀ b, kb = some b → S.kb = some b ∨ B ≤ b) (a2 : kn ≤ S.kn + 1) (hx : pres x = true) :
    Goes B S kb kn (fun j => if j = i then some x else S.K j) i x := by
  refine ⟨a1, a2, fun j y hj => ?_⟩
  by_cases e : j = i
  · simp only [e, if_true] at hj
    injection hj with hj
    exact Or.inr ⟨e, hj.symm, by rw [← hj]; exact hx⟩
  · rw [if_neg e] at hj
    exact Or.inl hj

theorem put_kept (S : MS) (i : Int × Int) (x : Int) : put S.kept i (some (.int .u16 x)) = fun j => (if j = i then some x else S.K j).map (fun x => Value.int .u16 x) := by
  funext j
  simp only [put, MS.kept]
  split <;> rfl

theorem Mach.cached_self {w : World} {mb : Nat} {S : MS} (h : Mach w mb S) : Mach w mb (S.cached S.kb S.kn S.K) := h

/-- The walk keeps what it has found, in the map that is there. -/
theorem Mach.keptSome {w w' : World} {mb : Nat} {S : MS} {kb : Nat} {i : Int × Int} {x : Int} (h : Mach w mb S) (e : S.kb = some kb)
    (hK : Kept w' (some kb) (S.kn + 1) (put S.kept i (some (.int .u16 x)))) (o : Only (One kb) w w') :
    Mach w' mb (S.cached S.kb (S.kn + 1) (fun j => if j = i then some x else S.K j)) := by
  refine h.turnK ?_ (fun h => by rw [e] at h; cases h) (o.mono (fun k _ hk => by rw [OptOne, e]; simp [One] at hk; rw [hk]))
  rw [e, ← put_kept]
  exact hK

theorem Mach.keptNone {w w' : World} {mb : Nat} {S : MS} {kb : Nat} {t : TypeId} {i : Int × Int} {x : Int} (h : Mach w mb S) (hb : w.heap.size ≤ kb)
    (hK : Kept w' (some kb) 1 (put S.kept i (some (.int .u16 x)))) (hr' : w'.rowIs mb t 4 (fun j => if j = 3 then .map (some kb) else S.cell j)) (o : Only (One mb) w w') :
    Mach w' mb (S.cached (some kb) 1 (fun j => if j = i then some x else S.K j)) := by
  have hl := h.lt
  have l1 := h.mem.ptr_lt
  have l2 := h.mem.row_lt
  have l3 := h.gst.lt
  refine ⟨⟨t, hr'.congr (fun j hj => ?_)⟩, h.mem.only o (fun e => h.n1 e.symm) (fun e => h.n2 e.symm), h.gst.only o (fun e => h.n3 e.symm), ?_, h.n1, h.n2, h.n3, ?_, h.n5, h.n6, ?_, ?_, ?_, ?_⟩
  · simp only [MS.cell, MS.cached]
    by_cases e : j = 3
    · subst e
      rfl
    · rw [if_neg e]
      by_cases e0 : j = 0
      · simp [e0]
      · by_cases e1 : j = 1
        · simp [e1]
        · have e2 : j = 2 := by omega
          simp [e2]
  · have := put_kept S i x
    rw [this] at hK
    exact hK
  · intro e
    simp [MS.cached] at e
    omega
  · intro e
    simp [MS.cached] at e
    omega
  · intro e
    simp [MS.cached] at e
    omega
  · intro e
    simp [MS.cached] at e
    omega
  · intro e
    cases e

set_option maxHeartbeats 1000000 in
theorem mwalk_any (w : World) (mb : Nat) (S : MS) (h : Mach w mb S) (g p : Int) (r : Nat) (hg : In64 g) (hG : S.G g = some r) (h0 : 0 ≤ p) (h1 : p < 64) (hr : r < S.M.n)
  (ht : pres (S.M.tbl r p.toNat) = true → numb (S.M.tbl r p.toNat) < S.M.n) (hK : ∀ x, S.K (g, p) = some x → x = S.M.ent r p.toNat) (hn : S.kn < maxLen) :
    Calls Tryz.prog 55 #[pt mb, .int .i64 g, .int .i64 p] w fun e w' => ∃ kb kn K, e = .returned (.int .u16 (S.M.ent r p.toNat)) ∧ Mach w' mb (S.cached kb kn K) ∧ Goes w.heap.size S kb kn K (g, p) (S.M.ent r p.toNat) ∧ Only (S.own mb) w w' := by
  have hp : In64 p := ⟨by omega, by omega⟩
  have hblt := h.lt
  have hA := h.nob (((Only.refl Nob w).alloc (.cells #[.int .i64 g, .int .i64 p] 99)).drew)
  have hc3 := hA.c3
  have hb := ent_bd h.mem r p.toNat
  cases hk : S.K (g, p) with
  | some x =>
    have HX := hid (hK x hk)
    clear hK hn
    have hkx : S.kept (g, p) = some (.int .u16 x) := by simp [MS.kept, hk]
    go_enter Tryz.func55, Tryz.ntmps55
    go_wp2
    go_region_with (go_at_call 81; refine (find_any _ mb 3 S.kb S.kn S.kept g p hg hp hA.c3 hA.kpt).mono ?_; rintro e w1 ⟨rfl, ho⟩; rw [hkx])
    go_wp2
    go_ret
    have hO := (((Only.refl Nob w).alloc _).drew).trans ho
    exact ⟨S.kb, S.kn, S.K, by rw [← HX.out]; rfl, h.nob hO, Goes.refl _ _ _ _, hO.of_nob⟩
  | none =>
    clear hK
    have HN := hid hn
    clear hn
    have hkx : S.kept (g, p) = none := by simp [MS.kept, hk]
    go_enter Tryz.func55, Tryz.ntmps55
    go_wp2
    go_region_with (go_at_call 81; refine (find_any _ mb 3 S.kb S.kn S.kept g p hg hp hA.c3 hA.kpt).mono ?_; rintro e w1 ⟨rfl, ho⟩; rw [hkx])
    have hO := (((Only.refl Nob w).alloc _).drew).trans ho
    have hp0 := ho.laidD (fun h => h) 0
    have hp1 := ho.laidD (fun h => h) 1
    have hA1 := hA.nob ho
    have hrun := hA1.gst.look (i := g) law3 Tryz.underlying64 (zero77 w1) (key3 hg)
    simp only [MS.gst, hG, Option.map_some, Option.getD_some] at hrun
    have hd1 := hA1.c1
    have hfld := fun w => fld0 w S.mp r (S.Rt g)
    clear hA hc3
    go_wp2_with fail
    refine (walk_any (M := S.M) _ r p hA1.mem hr h0 h1 ht).mono ?_
    rintro e w2 ⟨rfl, ho2⟩
    have hO2 := hO.trans ho2
    have hq0 := ho2.keep (fun h => h) hp0
    have hq1 := ho2.keep (fun h => h) hp1
    have hA2 := hA1.nob ho2
    clear hrun hd1 hp0 hp1 ho hO hA1
    cases hx : pres (S.M.ent r p.toNat) with
    | false =>
      go_wp2_with (go_at_call 56; refine (present_any _ _ hb.1 hb.2).mono ?_; rintro e w' ⟨rfl, rfl⟩)
      go_ret
      exact ⟨S.kb, S.kn, S.K, rfl, hA2, Goes.refl _ _ _ _, hO2.of_nob⟩
    | true =>
      have hd3 := hA2.c3
      cases hkb : S.kb with
      | some kb =>
        have hk2 := hA2.kpt
        rw [hkb] at hk2
        obtain ⟨t, hrow⟩ := hA2.row
        have HC : Hid (S.cell 3 = .map (some kb)) := by simp [Hid, MS.cell, hkb]
        have HB := hid hkb
        clear hkb hd3
        go_wp2_with (go_at_call 56; refine (present_any _ _ hb.1 hb.2).mono ?_; rintro e w' ⟨rfl, rfl⟩)
        go_region_with (go_at_call 83; refine (keepSome_any _ mb 3 4 kb t S.cell S.kn S.kept g p _ hg hp hrow.drew (by omega) HC.out (hk2.nob (Only.refl Nob w2).drew) HN.out).mono ?_; rintro e w3 ⟨rfl, hk3, ho3⟩)
        go_wp2
        go_ret
        have hM3 := (hA2.nob (Only.refl Nob w2).drew).keptSome HB.out hk3 ho3
        refine ⟨_, _, _, rfl, hM3, Goes.put (fun _ h => Or.inl h) (Nat.le_refl _) hx, ?_⟩
        exact ((hO2.of_nob (S := S.own mb)).drew).after ho3 (fun b _ hb => Or.inr (Or.inr (Or.inr (Or.inr (by rw [HB.out, hb])))))
      | none =>
        have hk2 := hA2.kpt
        rw [hkb] at hk2
        obtain ⟨t, hrow⟩ := hA2.row
        have HC : Hid (S.cell 3 = .map none) := by simp [Hid, MS.cell, hkb]
        have HB := hid hkb
        have HZ := hid (hA2.kz hkb)
        clear hkb hd3
        have hk20 : Kept w2.drew none 0 S.kept := hk2
        go_wp2_with (go_at_call 56; refine (present_any _ _ hb.1 hb.2).mono ?_; rintro e w' ⟨rfl, rfl⟩)
        go_region_with (go_at_call 83; refine (keepNone_any _ mb 3 4 t S.cell S.kept g p _ hg hp hrow.drew (by omega) HC.out hk20).mono ?_; rintro e w3 ⟨kb, hkl, rfl, hk3, hr3, ho3⟩)
        go_wp2
        go_ret
        have hM3 := (hA2.nob (Only.refl Nob w2).drew).keptNone hkl hk3 hr3 ho3
        have hsz : w.heap.size ≤ kb := Nat.le_trans hO2.size hkl
        refine ⟨_, _, _, rfl, hM3, Goes.put (fun b h => ?_) (by omega) hx, ?_⟩
        · injection h with h
          exact Or.inr (by omega)
        · exact ((hO2.of_nob (S := S.own mb)).drew).after ho3 (fun b _ hb => Or.inl hb)
end Go.Proofs.YtfcepnhknmbaaaaGreat
