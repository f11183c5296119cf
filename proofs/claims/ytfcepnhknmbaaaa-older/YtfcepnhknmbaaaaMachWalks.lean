/- The contract of a machine's walk: the entry of a page, by the tables or by the cache. -/
import Derived.Test.YtfcepnhknmbaaaaMachBase
namespace Go.Proofs.Ytfcepnhknmbaaaa
open Go.RowKit Go.Deep
open Go.Maps (Keyed)

/-- The same machine but for its cache. -/
def MS.cached (S : MS) (kb : Option Nat) (kn : Nat) (K : Int × Int → Option Int) : MS := { S with kb := kb, kn := kn, K := K }

/-- What a walk may do to the cache. -/
structure Goes (B : Nat) (S : MS) (kb : Option Nat) (kn : Nat) (K : Int × Int → Option Int) (i : Int × Int) (x : Int) : Prop where
  kb : ∀ b, kb = some b → S.kb = some b ∨ B ≤ b
  kn : kn ≤ S.kn + 1
  K : ∀ j y, K j = some y → S.K j = some y ∨ (j = i ∧ y = x ∧ pres y = true)

theorem Goes.refl (B : Nat) (S : MS) (i : Int × Int) (x : Int) : Goes B S S.kb S.kn S.K i x := ⟨fun _ h => Or.inl h, by omega, fun _ _ h => Or.inl h⟩

theorem Goes.put {B : Nat} {S : MS} {kb : Option Nat} {kn : Nat} {i : Int × Int} {x : Int} (a1 : ∀ b, kb = some b → S.kb = some b ∨ B ≤ b) (a2 : kn ≤ S.kn + 1) (hx : pres x = true) :
    Goes B S kb kn (fun j => if j = i then some x else S.K j) i x := by
  refine ⟨a1, a2, fun j y hj => ?_⟩
  by_cases e : j = i
  · simp only [e, if_true] at hj
    injection hj with hj
    exact Or.inr ⟨e, hj.symm, by rw [← hj]; exact hx⟩
  · rw [if_neg e] at hj
    exact Or.inl hj

theorem put_kept (S : MS) (i : Int × Int) (x : Int) : put S.kept i (some (.int .u16 x)) = fun j => (if j = i then some x else S.K j).map (fun x => Value.int .u16 x) := by
  funext j
  simp only [put, MS.kept]
  split <;> rfl

theorem Mach.cached_self {w : World} {mb : Nat} {S : MS} (h : Mach w mb S) : Mach w mb (S.cached S.kb S.kn S.K) := h

/-- The walk keeps what it has found, in the map that is there. -/
theorem Mach.keptSome {w w' : World} {mb : Nat} {S : MS} {kb : Nat} {i : Int × Int} {x : Int} (h : Mach w mb S) (e : S.kb = some kb)
    (hK : Kept w' (some kb) (S.kn + 1) (put S.kept i (some (.int .u16 x)))) (o : Only (One kb) w w') :
    Mach w' mb (S.cached S.kb (S.kn + 1) (fun j => if j = i then some x else S.K j)) := by
  refine h.turnK ?_ (fun h => by rw [e] at h; cases h) (o.mono (fun k _ hk => by rw [OptOne, e]; simp [One] at hk; rw [hk]))
  rw [e, ← put_kept]
  exact hK

theorem Mach.keptNone {w w' : World} {mb : Nat} {S : MS} {kb : Nat} {t : TypeId} {i : Int × Int} {x : Int} (h : Mach w mb S) (hb : w.heap.size ≤ kb)
    (hK : Kept w' (some kb) 1 (put S.kept i (some (.int .u16 x)))) (hr' : w'.rowIs mb t 4 (fun j => if j = 3 then .map (some kb) else S.cell j)) (o : Only (One mb) w w') :
    Mach w' mb (S.cached (some kb) 1 (fun j => if j = i then some x else S.K j)) := by
  have hl := h.lt
  have l1 := h.mem.ptr_lt
  have l2 := h.mem.row_lt
  have l3 := h.gst.lt
  refine ⟨⟨t, hr'.congr (fun j hj => ?_)⟩, h.mem.only o (fun e => h.n1 e.symm) (fun e => h.n2 e.symm), h.gst.only o (fun e => h.n3 e.symm), ?_, h.n1, h.n2, h.n3, ?_, h.n5, h.n6, ?_, ?_, ?_, ?_⟩
  · simp only [MS.cell, MS.cached]
    by_cases e : j = 3
    · subst e
      rfl
    · rw [if_neg e]
      by_cases e0 : j = 0
      · simp [e0]
      · by_cases e1 : j = 1
        · simp [e1]
        · have e2 : j = 2 := by omega
          simp [e2]
  · have := put_kept S i x
    rw [this] at hK
    exact hK
  · intro e
    simp [MS.cached] at e
    omega
  · intro e
    simp [MS.cached] at e
    omega
  · intro e
    simp [MS.cached] at e
    omega
  · intro e
    simp [MS.cached] at e
    omega
  · intro e
    cases e

set_option maxHeartbeats 1000000 in
theorem mwalk_any (w : World) (mb : Nat) (S : MS) (h : Mach w mb S) (g p : Int) (r : Nat) (hg : In64 g) (hG : S.G g = some r) (h0 : 0 ≤ p) (h1 : p < 64) (hr : r < S.M.n)
  (ht : pres (S.M.tbl r p.toNat) = true → numb (S.M.tbl r p.toNat) < S.M.n) (hK : ∀ x, S.K (g, p) = some x → x = S.M.ent r p.toNat) (hn : S.kn < maxLen) :
    Calls Try.prog 33 #[pt mb, .int .i64 g, .int .i64 p] w fun e w' => ∃ kb kn K, e = .returned (.int .u16 (S.M.ent r p.toNat)) ∧ Mach w' mb (S.cached kb kn K) ∧ Goes w.heap.size S kb kn K (g, p) (S.M.ent r p.toNat) ∧ Only (S.own mb) w w' := by
  have hp : In64 p := ⟨by omega, by omega⟩
  have hblt := h.lt
  have hA := h.nob (((Only.refl Nob w).alloc (.cells #[.int .i64 g, .int .i64 p] 87)).drew)
  have hc3 := hA.c3
  have hb := ent_bd h.mem r p.toNat
  cases hk : S.K (g, p) with
  | some x =>
    have HX := hid (hK x hk)
    clear hK hn
    have hkx : S.kept (g, p) = some (.int .u16 x) := by simp [MS.kept, hk]
    go_enter Try.func33, Try.ntmps33
    go_wp2
    go_region_with (go_at_call 57; refine (find_any _ mb 3 S.kb S.kn S.kept g p hg hp hA.c3 hA.kpt).mono ?_; rintro e w1 ⟨rfl, ho⟩; rw [hkx])
    go_wp2
    go_ret
    have hO := (((Only.refl Nob w).alloc _).drew).trans ho
    exact ⟨S.kb, S.kn, S.K, by rw [← HX.out]; rfl, h.nob hO, Goes.refl _ _ _ _, hO.of_nob⟩
  | none =>
    clear hK
    have HN := hid hn
    clear hn
    have hkx : S.kept (g, p) = none := by simp [MS.kept, hk]
    go_enter Try.func33, Try.ntmps33
    go_wp2
    go_region_with (go_at_call 57; refine (find_any _ mb 3 S.kb S.kn S.kept g p hg hp hA.c3 hA.kpt).mono ?_; rintro e w1 ⟨rfl, ho⟩; rw [hkx])
    have hO := (((Only.refl Nob w).alloc _).drew).trans ho
    have hp0 := ho.laidD (fun h => h) 0
    have hp1 := ho.laidD (fun h => h) 1
    have hA1 := hA.nob ho
    have hrun := hA1.gst.look (i := g) law3 Try.underlying78 (zero77 w1) (key3 hg)
    simp only [MS.gst, hG, Option.map_some, Option.getD_some] at hrun
    have hd1 := hA1.c1
    have hfld := fun w => fld0 w S.mp r (S.Rt g)
    clear hA hc3
    go_wp2_with fail
    refine (walk_any (M := S.M) _ r p hA1.mem hr h0 h1 ht).mono ?_
    rintro e w2 ⟨rfl, ho2⟩
    have hO2 := hO.trans ho2
    have hq0 := ho2.keep (fun h => h) hp0
    have hq1 := ho2.keep (fun h => h) hp1
    have hA2 := hA1.nob ho2
    clear hrun hd1 hp0 hp1 ho hO hA1
    cases hx : pres (S.M.ent r p.toNat) with
    | false =>
      go_wp2_with (go_at_call 34; refine (present_any _ _ hb.1 hb.2).mono ?_; rintro e w' ⟨rfl, rfl⟩)
      go_ret
      exact ⟨S.kb, S.kn, S.K, rfl, hA2, Goes.refl _ _ _ _, hO2.of_nob⟩
    | true =>
      have hd3 := hA2.c3
      cases hkb : S.kb with
      | some kb =>
        have hk2 := hA2.kpt
        rw [hkb] at hk2
        obtain ⟨t, hrow⟩ := hA2.row
        have HC : Hid (S.cell 3 = .map (some kb)) := by simp [Hid, MS.cell, hkb]
        have HB := hid hkb
        clear hkb hd3
        go_wp2_with (go_at_call 34; refine (present_any _ _ hb.1 hb.2).mono ?_; rintro e w' ⟨rfl, rfl⟩)
        go_region_with (go_at_call 59; refine (keepSome_any _ mb 3 4 kb t S.cell S.kn S.kept g p _ hg hp hrow.drew (by omega) HC.out (hk2.nob (Only.refl Nob w2).drew) HN.out).mono ?_; rintro e w3 ⟨rfl, hk3, ho3⟩)
        go_wp2
        go_ret
        have hM3 := (hA2.nob (Only.refl Nob w2).drew).keptSome HB.out hk3 ho3
        refine ⟨_, _, _, rfl, hM3, Goes.put (fun _ h => Or.inl h) (Nat.le_refl _) hx, ?_⟩
        exact ((hO2.of_nob (S := S.own mb)).drew).after ho3 (fun b _ hb => Or.inr (Or.inr (Or.inr (Or.inr (by rw [HB.out, hb])))))
      | none =>
        have hk2 := hA2.kpt
        rw [hkb] at hk2
        obtain ⟨t, hrow⟩ := hA2.row
        have HC : Hid (S.cell 3 = .map none) := by simp [Hid, MS.cell, hkb]
        have HB := hid hkb
        have HZ := hid (hA2.kz hkb)
        clear hkb hd3
        have hk20 : Kept w2.drew none 0 S.kept := hk2
        go_wp2_with (go_at_call 34; refine (present_any _ _ hb.1 hb.2).mono ?_; rintro e w' ⟨rfl, rfl⟩)
        go_region_with (go_at_call 59; refine (keepNone_any _ mb 3 4 t S.cell S.kept g p _ hg hp hrow.drew (by omega) HC.out hk20).mono ?_; rintro e w3 ⟨kb, hkl, rfl, hk3, hr3, ho3⟩)
        go_wp2
        go_ret
        have hM3 := (hA2.nob (Only.refl Nob w2).drew).keptNone hkl hk3 hr3 ho3
        have hsz : w.heap.size ≤ kb := Nat.le_trans hO2.size hkl
        refine ⟨_, _, _, rfl, hM3, Goes.put (fun b h => ?_) (by omega) hx, ?_⟩
        · injection h with h
          exact Or.inr (by omega)
        · exact ((hO2.of_nob (S := S.own mb)).drew).after ho3 (fun b _ hb => Or.inl hb)
end Go.Proofs.Ytfcepnhknmbaaaa
