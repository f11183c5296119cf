/- Blank: the law's own walk: it returns true, and turns nothing that was there. -/
import Derived.Test.YtfcepnhknmbaaaaKeepB
namespace Go.Proofs.Ytfcepnhknmbaaaa
open Go.RowKit Go.Deep

/-! Where no guest has a page, all frames but the guests' roots are free. -/
def updL (U : Nat → Int) : List Nat → Nat → Int
  | [] => U
  | r :: l => upd (updL U l) r 0

theorem updL_ne {U : Nat → Int} {j : Nat} : ∀ {l : List Nat}, j ∉ l → updL U l j = U j
  | [], _ => rfl
  | r :: l, h => by
    simp only [List.mem_cons, not_or] at h
    simp only [updL, upd]
    rw [if_neg h.1]
    exact updL_ne h.2
theorem updL_mem {U : Nat → Int} {j : Nat} : ∀ {l : List Nat}, j ∈ l → updL U l j = 0
  | r :: l, h => by
    simp only [updL, upd]
    by_cases e : j = r
    · rw [if_pos e]
    · rw [if_neg e]
      exact updL_mem ((List.mem_cons.1 h).resolve_left e)

theorem free_updL {U : Nat → Int} {n : Nat} : ∀ {l : List Nat}, l.Nodup → (∀ r ∈ l, r < n ∧ U r ≠ 0) → freeTo (updL U l) n = freeTo U n + l.length
  | [], _, _ => rfl
  | r :: l, hn, h => by
    obtain ⟨h1, h2⟩ := List.nodup_cons.1 hn
    have ih := free_updL (U := U) (n := n) h2 (fun x hx => h x (by simp [hx]))
    obtain ⟨a, b⟩ := h r (by simp)
    have := freeTo_upd (U := updL U l) (v := 0) a
    rw [updL_ne h1, if_neg b, if_pos rfl, ih] at this
    simp only [updL, List.length_cons]
    omega

theorem nodup_map_roots {G : Gs} (hI : ∀ {g g' r}, G g = some r → G g' = some r → g = g') : ∀ {L : List Int}, L.Nodup → (∀ g ∈ L, (G g).isSome = true) → (L.map fun g => (G g).getD 0).Nodup
  | [], _, _ => List.nodup_nil
  | g :: L, hn, h => by
    obtain ⟨h1, h2⟩ := List.nodup_cons.1 hn
    simp only [List.map_cons]
    refine List.nodup_cons.2 ⟨fun q => ?_, nodup_map_roots hI h2 (fun x hx => h x (by simp [hx]))⟩
    obtain ⟨g', hg', e⟩ := List.mem_map.1 q
    obtain ⟨r, hr⟩ := Option.isSome_iff_exists.1 (h g (by simp))
    obtain ⟨r', hr'⟩ := Option.isSome_iff_exists.1 (h g' (by simp [hg']))
    rw [hr, hr'] at e
    simp at e
    have : g' = g := hI hr' (by rw [hr, e])
    rw [this] at hg'
    exact h1 hg'

theorem free_bare {S : MS} {H : Hs} (hI : Inv S H) (hp : ∀ g r p, S.G g = some r → p < 64 → pres (S.M.ent r p) = false) : S.M.free + S.cnt = S.M.n := by
  obtain ⟨L, l1, l2, l3⟩ := hI.gl
  have hroot : ∀ x ∈ L.map (fun g => (S.G g).getD 0), IsRoot S.G x := fun x hx => by
    obtain ⟨g, hg, e⟩ := List.mem_map.1 hx
    obtain ⟨r, hr⟩ := Option.isSome_iff_exists.1 ((l2 g).1 hg)
    rw [hr] at e
    exact ⟨g, by rw [hr]; simpa using e⟩
  have h1 := free_updL (U := S.M.U) (n := S.M.n) (nodup_map_roots hI.ok.rootI l1 (fun g hg => (l2 g).1 hg)) (fun r hr => by
    obtain ⟨g, hg⟩ := hroot r hr
    have := hI.ok.rootN hg
    exact ⟨this.1, by omega⟩)
  rw [freeTo_all (fun j hj => ?_), List.length_map, l3] at h1
  · exact h1.symm
  · by_cases e : j ∈ L.map (fun g => (S.G g).getD 0)
    · exact updL_mem e
    · rw [updL_ne e]
      have hr : ¬ IsRoot S.G j := by
        rintro ⟨g, hg⟩
        exact e (List.mem_map.2 ⟨g, (l2 g).2 (by rw [hg]; rfl), by rw [hg]; rfl⟩)
      have ht : ¬ IsTab S.M S.G j := by
        rintro ⟨g, r, k, q, hk, hx, _⟩
        obtain ⟨p, _, hp', hx'⟩ := (group_iff hI.full q hk).1 hx
        rw [hp g r p q hp'] at hx'
        cases hx'
      rw [hI.ok.hU j hj hr ht]
      have : H j = [] := by
        apply List.eq_nil_iff_forall_not_mem.2
        rintro ⟨g, p⟩ hm
        obtain ⟨hp', r, q, hx', _⟩ := (hI.ok.hIn j g p).1 hm
        rw [hp g r p q hp'] at hx'
        cases hx'
      rw [this]
      rfl

theorem RunX.bare {X : Nat → Prop} {w : World} {mb : Nat} {A : Abs} (h : RunX X w mb A) (hp : ∀ g p, p < 64 → A.pg g p = none) : A.free + A.cnt = A.n := by
  obtain ⟨_, own, ⟨S, H, _, hI, hS, _⟩, _⟩ := h
  rw [hS.free, hS.cnt, hS.n]
  refine free_bare hI (fun g r p hg hp' => ?_)
  have := hS.pg g r p hg hp'
  rw [hp g p hp'] at this
  rw [← pgOf_isSome, ← this]
  rfl

/-! Pages of one guest, one behind the other. -/
structure Fill (A : Abs) (g : Int) (low i : Nat) (F : Nat) : Prop where
  has : A.has g = true
  free : A.free + i + (i + 7) / 8 = F
  som : ∀ p, p < 64 → (A.pg g p).isSome = decide (low ≤ p ∧ p < low + i)

def AllW (A : Abs) (g : Int) (b : Bool) : Prop := ∀ p f c, p < 64 → A.pg g p = some (f, c) → c = b
def Nought (A : Abs) (g : Int) : Prop := ∀ p f c k, p < 64 → A.pg g p = some (f, c) → A.wd f k = 0
def Non (A : Abs) (g : Int) : Prop := ∀ g' p, g' ≠ g → p < 64 → A.pg g' p = none

theorem fill_grp {A : Abs} {g : Int} {low i F : Nat} (h : Fill A g low i F) (hlow : low % 8 = 0) (hlt : low + i < 64) : A.grp g ((low + i) / 8) = decide (i % 8 ≠ 0) := by
  rw [Bool.eq_iff_iff, decide_eq_true_eq]
  simp only [Abs.grp, List.any_eq_true, List.mem_range]
  constructor
  · rintro ⟨j, hj, q⟩
    rw [h.som _ (by omega), decide_eq_true_eq] at q
    omega
  · intro q
    refine ⟨0, by omega, ?_⟩
    rw [h.som _ (by omega), decide_eq_true_eq]
    omega

theorem fill_map {A : Abs} {g : Int} {low i F : Nat} (h : Fill A g low i F) (hlow : low % 8 = 0) (hlt : low + i < 64) (hi : i < 14) (hF : 16 ≤ F) :
    A.mapCode g (low + i : Nat) = 0 ∧ ∀ f b, Fill (A.mapped g (low + i) f b) g low (i + 1) F := by
  have hfr := h.free
  have hg := fill_grp h hlow hlt
  have hn : A.need g (low + i) = if i % 8 ≠ 0 then 1 else 2 := by
    simp only [Abs.need, hg, decide_eq_true_eq]
  have hnf : A.need g (low + i) ≤ A.free := by
    rw [hn]
    split <;> omega
  constructor
  · have hc : A.check g (isPg ((low + i : Nat) : Int)) = 0 := by
      have : isPg ((low + i : Nat) : Int) = true := by simp [isPg]; omega
      rw [this]; simp [Abs.check, h.has]
    have hs : (A.pg g (low + i)).isSome = false := by rw [h.som _ hlt]; simp
    simp only [Abs.mapCode, hc, Int.toNat_natCast, hs]
    simp
    omega
  · intro f b
    refine ⟨h.has, ?_, fun p hp => ?_⟩
    · show A.free - A.need g (low + i) + (i + 1) + (i + 1 + 7) / 8 = F
      rw [hn] at hnf ⊢
      split at hnf <;> rename_i q
      · rw [if_pos q]
        omega
      · rw [if_neg q]
        omega
    · show (if g = g ∧ p = low + i then some (f, b) else A.pg g p).isSome = _
      by_cases e : p = low + i
      · rw [if_pos ⟨rfl, e⟩]
        symm
        rw [Option.isSome_some, decide_eq_true_eq]
        omega
      · rw [if_neg (fun q => e q.2), h.som p hp]
        congr 1
        apply propext
        omega

theorem fill_has {A : Abs} {g : Int} {low i F j : Nat} (h : Fill A g low i F) (hj : j < i) (hlt : low + j < 64) : ∃ f c, A.pg g (low + j) = some (f, c) := by
  have := h.som (low + j) hlt
  rw [show decide (low ≤ low + j ∧ low + j < low + i) = true by rw [decide_eq_true_eq]; omega] at this
  obtain ⟨⟨f, c⟩, q⟩ := Option.isSome_iff_exists.1 this
  exact ⟨f, c, q⟩

theorem fill_write {A : Abs} {g v : Int} {low i F j k : Nat} (h : Fill A g low i F) (hw : AllW A g true) (hj : j < i) (hlt : low + j < 64) (hk : k < 8) (hv0 : 0 ≤ v) (hv1 : v ≤ 65535) : A.writeCode g (8 * (low + j) + k : Nat) v = 0 := by
  obtain ⟨f, c, hpg⟩ := fill_has h hj hlt
  have hc : A.check g (isAd ((8 * (low + j) + k : Nat) : Int)) = 0 := by
    have : isAd ((8 * (low + j) + k : Nat) : Int) = true := by simp [isAd]; omega
    rw [this]; simp [Abs.check, h.has]
  have e : (8 * (low + j) + k) / 8 = low + j := by omega
  have hcw := hw _ _ _ hlt hpg
  have hv : ¬ (v < 0 ∨ 65535 < v) := by omega
  simp only [Abs.writeCode, hc, Int.toNat_natCast, e, hpg, hcw]
  simp [hv]

theorem fill_read {A : Abs} {g : Int} {low i F j k : Nat} (h : Fill A g low i F) (hz : Nought A g) (hj : j < i) (hlt : low + j < 64) (hk : k < 8) : A.readAt g (8 * (low + j) + k : Nat) = (0, 0) := by
  obtain ⟨f, c, hpg⟩ := fill_has h hj hlt
  have hc : A.check g (isAd ((8 * (low + j) + k : Nat) : Int)) = 0 := by
    have : isAd ((8 * (low + j) + k : Nat) : Int) = true := by simp [isAd]; omega
    rw [this]; simp [Abs.check, h.has]
  have e : (8 * (low + j) + k) / 8 = low + j := by omega
  simp only [Abs.readAt, hc, Int.toNat_natCast, e, hpg]
  rw [hz (low + j) f c _ hlt hpg]
  simp

theorem fill_tick {A A' : Abs} {g : Int} {low i F : Nat} (hA : A' = A ∨ A' = A.tick) (h : Fill A g low i F) : Fill A' g low i F := by
  rcases hA with rfl | rfl
  · exact h
  · exact ⟨h.has, h.free, h.som⟩
theorem nought_tick {A A' : Abs} {g : Int} (hA : A' = A ∨ A' = A.tick) (h : Nought A g) : Nought A' g := by
  rcases hA with rfl | rfl
  · exact h
  · exact h
theorem kn_tick {A A' : Abs} (hA : A' = A ∨ A' = A.tick) : A'.kn ≤ A.kn + 1 := by
  rcases hA with rfl | rfl
  · omega
  · exact Nat.le_refl _

theorem nought_mapped {A : Abs} {g : Int} {p f : Nat} {b : Bool} (h : Nought A g) : Nought (A.mapped g p f b) g := by
  intro q f' c k hq e
  have e : (if g = g ∧ q = p then some (f, b) else A.pg g q) = some (f', c) := e
  show (if f' = f then 0 else A.wd f' k) = 0
  split
  · rfl
  · rename_i hne
    split at e
    · injection e with e
      injection e with e _
      exact absurd e.symm hne
    · exact h q f' c k hq e
theorem allW_mapped {A : Abs} {g : Int} {p f : Nat} {b : Bool} (h : AllW A g b) : AllW (A.mapped g p f b) g b := by
  intro q f' c hq e
  have e : (if g = g ∧ q = p then some (f, b) else A.pg g q) = some (f', c) := e
  split at e
  · injection e with e
    injection e with _ e
    exact e.symm
  · exact h q f' c hq e
theorem non_mapped {A : Abs} {g : Int} {p f : Nat} {b : Bool} (h : Non A g) : Non (A.mapped g p f b) g := by
  intro g' q hg' hq
  show (if g' = g ∧ q = p then some (f, b) else A.pg g' q) = none
  rw [if_neg (fun e => hg' e.1)]
  exact h g' q hg' hq

theorem fill_mapI {A : Abs} {g p : Int} {low i F : Nat} (h : Fill A g low i F) (hlow : low % 8 = 0) (hlt : low + i < 64) (hi : i < 14) (hF : 16 ≤ F) (hp : p = ((low + i : Nat) : Int)) :
    A.mapCode g p = 0 ∧ ∀ f b, Fill (A.mapped g p.toNat f b) g low (i + 1) F := by
  subst hp
  rw [Int.toNat_natCast]
  exact fill_map h hlow hlt hi hF
theorem fill_writeI {A : Abs} {g v a : Int} {low i F j k : Nat} (h : Fill A g low i F) (hw : AllW A g true) (hj : j < i) (hlt : low + j < 64) (hk : k < 8) (hv0 : 0 ≤ v) (hv1 : v ≤ 65535) (ha : a = ((8 * (low + j) + k : Nat) : Int)) : A.writeCode g a v = 0 := by
  subst ha
  exact fill_write h hw hj hlt hk hv0 hv1
theorem fill_readI {A : Abs} {g a : Int} {low i F j k : Nat} (h : Fill A g low i F) (hz : Nought A g) (hj : j < i) (hlt : low + j < 64) (hk : k < 8) (ha : a = ((8 * (low + j) + k : Nat) : Int)) : A.readAt g a = (0, 0) := by
  subst ha
  exact fill_read h hz hj hlt hk

/-- What the law holds of its machine while pages of guest g come. -/
structure BRel (w wr : World) (mb : Nat) (A : Abs) (g : Int) (low i F : Nat) (c : Nat) : Prop where
  run : RunX (fun b => b < w.heap.size) wr mb A
  keep : Keeps (fun b => b < w.heap.size) w wr
  fill : Fill A g low i F
  non : Non A g
  kn : A.kn ≤ c
  an : A.n = 20
  both : A.has 2 = true
  gs : ∀ g', g' ≠ 1 → g' ≠ 2 → A.has g' = false
  cnt : A.cnt ≤ 2

theorem brel_tick {w wr w2 : World} {mb : Nat} {A A' : Abs} {g : Int} {low i F c : Nat} (h : BRel w wr mb A g low i F c) (hR : RunX (fun b => b < w.heap.size) w2 mb A') (hK : Keeps (fun b => b < w.heap.size) wr w2) (hA : A' = A ∨ A' = A.tick) : BRel w w2 mb A' g low i F (c + 1) := by
  have := h.kn
  have := kn_tick hA
  refine ⟨hR, h.keep.trans hK, fill_tick hA h.fill, ?_, by omega, ?_, ?_, ?_, ?_⟩
  all_goals rcases hA with rfl | rfl
  · exact h.non
  · exact h.non
  · exact h.an
  · exact h.an
  · exact h.both
  · exact h.both
  · exact h.gs
  · exact h.gs
  · exact h.cnt
  · exact h.cnt

theorem brel_mapped {w wr w2 : World} {mb : Nat} {A : Abs} {g p : Int} {low i F c f : Nat} {b : Bool} (h : BRel w wr mb A g low i F c) (hR : RunX (fun b => b < w.heap.size) w2 mb (A.mapped g p.toNat f b)) (hK : Keeps (fun b => b < w.heap.size) wr w2) (hF : Fill (A.mapped g p.toNat f b) g low (i + 1) F) : BRel w w2 mb (A.mapped g p.toNat f b) g low (i + 1) F (c + 1) := by
  have := h.kn
  exact ⟨hR, h.keep.trans hK, hF, non_mapped h.non, by show A.kn + 1 ≤ _; omega, h.an, h.both, h.gs, h.cnt⟩

theorem brel_wrote {w wr w2 : World} {mb : Nat} {A : Abs} {g v : Int} {low i F c f k : Nat} (h : BRel w wr mb A g low i F c) (hR : RunX (fun b => b < w.heap.size) w2 mb (A.wrote f k v)) (hK : Keeps (fun b => b < w.heap.size) wr w2) : BRel w w2 mb (A.wrote f k v) g low i F (c + 1) := by
  have := h.kn
  exact ⟨hR, h.keep.trans hK, ⟨h.fill.has, h.fill.free, h.fill.som⟩, h.non, by show A.kn + 1 ≤ _; omega, h.an, h.both, h.gs, h.cnt⟩

theorem brel_kn {w wr : World} {mb : Nat} {A : Abs} {g : Int} {low i F c c' : Nat} (h : BRel w wr mb A g low i F c) (hc : c ≤ c') : BRel w wr mb A g low i F c' := ⟨h.run, h.keep, h.fill, h.non, Nat.le_trans h.kn hc, h.an, h.both, h.gs, h.cnt⟩

theorem brel_lt {w wr : World} {mb : Nat} {A : Abs} {g : Int} {low i F c : Nat} (h : BRel w wr mb A g low i F c) (hc : c ≤ 10000) : A.kn < maxLen := by
  have := h.kn
  unfold maxLen
  omega

/-- Behind what is given back no guest has a page. -/
structure Bare (w wr : World) (mb : Nat) (A : Abs) : Prop where
  run : RunX (fun b => b < w.heap.size) wr mb A
  keep : Keeps (fun b => b < w.heap.size) w wr
  pg : ∀ g p, p < 64 → A.pg g p = none
  kn : A.kn ≤ 1000
  an : A.n = 20
  cnt : A.cnt ≤ 2
  both : A.has 2 = true
  gs : ∀ g', g' ≠ 1 → g' ≠ 2 → A.has g' = false

theorem bare_start {w wr : World} {mb : Nat} {A : Abs} (h : Bare w wr mb A) (low : Nat) : BRel w wr mb A 2 low 0 A.free 1000 ∧ Nought A 2 ∧ 16 ≤ A.free := by
  have h1 := h.run.bare h.pg
  have h2 := h.an
  have h3 := h.cnt
  refine ⟨⟨h.run, h.keep, ⟨h.both, by omega, fun p hp => ?_⟩, fun g' p _ hp => ?_, h.kn, h.an, h.both, h.gs, h.cnt⟩, fun p f c k hp e => ?_, by omega⟩
  · rw [h.pg 2 p hp]
    symm
    simp
  · exact h.pg g' p hp
  · rw [h.pg 2 p hp] at e
    cases e

theorem init_brel {w wr : World} {mb : Nat} {A : Abs} (hX : RunX (fun b => b < w.heap.size) wr mb A) (hK : Keeps (fun b => b < w.heap.size) w wr) (hI : Init A 20 2) : BRel w wr mb A 1 0 0 18 10 ∧ AllW A 1 true := by
  have hf := hI.free
  refine ⟨⟨hX, hK, ⟨by rw [hI.has]; rfl, by omega, fun p hp => ?_⟩, fun g' p _ _ => hI.pg g' p, hI.kn, hI.an, by rw [hI.has]; rfl, fun g' h1 h2 => ?_, by rw [hI.cnt]; exact Nat.le_refl _⟩, fun p f c _ e => ?_⟩
  · rw [hI.pg]
    symm
    simp
  · rw [hI.has]
    simp
    omega
  · rw [hI.pg] at e
    cases e

/-- While the pages of guest 1 are given back. -/
structure URel (w wr : World) (mb : Nat) (A : Abs) (i n : Nat) : Prop where
  run : RunX (fun b => b < w.heap.size) wr mb A
  keep : Keeps (fun b => b < w.heap.size) w wr
  one : A.has 1 = true
  som : ∀ p, p < 64 → (A.pg 1 p).isSome = decide (i ≤ p ∧ p < n)
  non : Non A 1
  kn : A.kn ≤ 500 + i
  an : A.n = 20
  cnt : A.cnt ≤ 2
  both : A.has 2 = true
  gs : ∀ g', g' ≠ 1 → g' ≠ 2 → A.has g' = false

theorem urel_start {w wr : World} {mb : Nat} {A : Abs} {n F c : Nat} (h : BRel w wr mb A 1 0 n F c) (hc : c ≤ 500) : URel w wr mb A 0 n := by
  have := h.kn
  exact ⟨h.run, h.keep, h.fill.has, fun p hp => by rw [h.fill.som p hp]; congr 1; apply propext; omega, h.non, by omega, h.an, h.cnt, h.both, h.gs⟩

theorem urel_code {w wr : World} {mb : Nat} {A : Abs} {i n : Nat} (h : URel w wr mb A i n) (hi : i < n) (hn : n ≤ 14) : A.unmapCode 1 (i : Int) = 0 := by
  have hc : A.check 1 (isPg (i : Int)) = 0 := by
    have : isPg (i : Int) = true := by simp [isPg]; omega
    rw [this]
    simp [Abs.check, h.one]
  have hs : (A.pg 1 i).isSome = true := by rw [h.som i (by omega), decide_eq_true_eq]; omega
  simp [Abs.unmapCode, hc, hs]

theorem urel_step {w wr w2 : World} {mb : Nat} {A : Abs} {i n fr : Nat} (h : URel w wr mb A i n) (hR : RunX (fun b => b < w.heap.size) w2 mb (A.unmapped 1 (i : Int).toNat fr)) (hK : Keeps (fun b => b < w.heap.size) wr w2) : URel w w2 mb (A.unmapped 1 (i : Int).toNat fr) (i + 1) n := by
  have := h.kn
  refine ⟨hR, h.keep.trans hK, h.one, fun p hp => ?_, fun g' p hg' hp => ?_, by show A.kn + 1 ≤ _; omega, h.an, h.cnt, h.both, h.gs⟩
  · show (if (1 : Int) = 1 ∧ p = (i : Int).toNat then none else A.pg 1 p).isSome = _
    rw [Int.toNat_natCast]
    by_cases e : p = i
    · rw [if_pos ⟨rfl, e⟩]
      symm
      simp
      omega
    · rw [if_neg (fun q => e q.2), h.som p hp]
      congr 1
      apply propext
      omega
  · show (if g' = 1 ∧ p = (i : Int).toNat then none else A.pg g' p) = none
    rw [if_neg (fun q => hg' q.1)]
    exact h.non g' p hg' hp

theorem urel_end {w wr : World} {mb : Nat} {A : Abs} {n : Nat} (h : URel w wr mb A n n) (hn : n ≤ 14) : Bare w wr mb A := by
  have := h.kn
  refine ⟨h.run, h.keep, fun g p hp => ?_, by omega, h.an, h.cnt, h.both, h.gs⟩
  by_cases e : g = 1
  · have h1 := h.som p hp
    rw [show decide (n ≤ p ∧ p < n) = false by simp] at h1
    rw [e]
    simpa using h1
  · exact h.non g p e hp

theorem gone_bare {w wr w2 : World} {mb : Nat} {A : Abs} {n F c fr : Nat} (h : BRel w wr mb A 1 0 n F c) (hc : c ≤ 500) (hR : RunX (fun b => b < w.heap.size) w2 mb (A.destroyed 1 fr)) (hK : Keeps (fun b => b < w.heap.size) wr w2) : Bare w w2 mb (A.destroyed 1 fr) := by
  have h1 := h.kn
  have h2 := h.cnt
  refine ⟨hR, h.keep.trans hK, fun g p hp => ?_, by show A.kn ≤ _; omega, h.an, by show A.cnt - 1 ≤ 2; omega, ?_, fun g' e1 e2 => ?_⟩
  · show (if g = 1 then none else A.pg g p) = none
    by_cases e : g = 1
    · rw [if_pos e]
    · rw [if_neg e]
      exact h.non g p e hp
  · show (if (2 : Int) = 1 then false else A.has 2) = true
    rw [if_neg (by omega)]
    exact h.both
  · show (if g' = 1 then false else A.has g') = false
    rw [if_neg e1]
    exact h.gs g' e1 e2

/-! The last part: another guest has as many, and reads noughts alone. -/
set_option maxRecDepth 100000 in
set_option maxHeartbeats 4000000 in
theorem blank_walk (n at' word : Int) (gone : Bool) (w : World) (hn : In64 n) (hat : In64 at') (hw : In64 word) :
    Calls Try.prog 4 #[.int .i64 n, .int .i64 at', .int .i64 word, .bool gone] w fun e w' => e = .returned (.bool true) ∧ Below w.heap.size w w' := by
  have hp1 := pickI_bd n 14 (by omega)
  have hp2 := pickI_bd word 65535 (by omega)
  have hp3 := pickI_bd at' 3 (by omega)
  go_enter Try.func4, Try.ntmps4
  go_wp2_with fail
  refine (machine_any _ 20 2 (by omega) (by omega) (by omega) (by omega) (by omega)).mono ?_
  rintro e w1 ⟨mb, A0, rfl, hR0, hI0⟩
  obtain ⟨hX0, hK0⟩ := RunX.of_run hR0
  obtain ⟨hB0, hW0⟩ := init_brel hX0 hK0 hI0
  clear hR0 hI0 hX0 hK0
  go_wp2_with fail
  refine (pick_any _ n 14 hn.1 hn.2 (by omega) (by omega)).mono ?_
  rintro e w2 ⟨rfl, rfl⟩
  clear hn
  generalize pickI n 14 = q1 at *
  go_wp2_with fail
  refine (pick_any _ word 65535 hw.1 hw.2 (by omega) (by omega)).mono ?_
  rintro e w2 ⟨rfl, rfl⟩
  clear hw
  generalize pickI word 65535 = q2 at *
  go_wp2_with fail
  have HB0 := hid hB0
  have HW0 := hid hW0
  clear hB0 hW0
  go_loopw [10] (fun c wr => ∃ (i : Nat) (A : Abs), (i : Int) ≤ 1 + q1 ∧ c = .int .i64 i ∧ BRel w wr mb A 1 0 i 18 (10 + 9 * i) ∧ AllW A 1 true) (fun c _ => (1 + q1 - intOf c).toNat)
  case atStart => exact ⟨0, A0, by omega, rfl, HB0.out, HW0.out⟩
  case round =>
    obtain ⟨i, A, hi, rfl, hrel, hall⟩ := hrel
    clear HB0 HW0
    by_cases hlt : (i : Int) < 1 + q1
    · obtain ⟨hcode, hfill⟩ := fill_mapI (p := (i : Int)) hrel.fill (by omega) (by omega) (by omega) (by omega) (by omega)
      have HCODE := hid hcode
      have HFILL := hid hfill
      have HK := hid (brel_lt hrel (by omega))
      have HALL := hid hall
      clear hcode hfill hall
      go_wp2_with fail
      refine (xMap hrel.run 1 i true (in64_lit (by omega) (by omega)) HK.out).mono ?_
      rintro e w2 ⟨A', rfl, hR', hK', hA', _⟩
      obtain ⟨f, _, rfl⟩ := hA' HCODE.out
      rw [HCODE.out]
      have hrel2 := brel_mapped (p := (i : Int)) hrel hR' hK' (HFILL.out f true)
      have HALL2 : Hid (AllW (A.mapped 1 (i : Int).toNat f true) 1 true) := allW_mapped HALL.out
      have HREL2 := hid hrel2
      clear hA' hrel2 HFILL HCODE
      go_wp2_with fail
      go_loopw [12] (fun c wr => ∃ (k : Nat) (A2 : Abs), k ≤ 8 ∧ c = .int .i64 k ∧ BRel w wr mb A2 1 0 (i + 1) 18 (10 + 9 * i + 1 + k) ∧ AllW A2 1 true) (fun c _ => 8 - (intOf c).toNat)
      case atStart => exact ⟨0, _, by omega, rfl, HREL2.out, HALL2.out⟩
      case round =>
        obtain ⟨k, A2, hk, rfl, hrelk, hallk⟩ := hrel
        clear HREL2 HALL2
        by_cases hk8 : k < 8
        · have hcode := fill_writeI (j := i) (k := k) (v := 1 + q2) (a := 8 * (i : Int) + k) hrelk.fill hallk (by omega) (by omega) hk8 (by omega) (by omega) (by omega)
          have HCODE := hid hcode
          have HK2 := hid (brel_lt hrelk (by omega))
          have HALLK := hid hallk
          clear hcode hallk
          go_wp2_with fail
          refine (xWrite hrelk.run 1 (8 * (i : Int) + k) (1 + q2) (in64_lit (by omega) (by omega)) HK2.out).mono ?_
          rintro e w3 ⟨A3, rfl, hR3, hK3, hA3, _⟩
          obtain ⟨f3, b3, _, rfl⟩ := hA3 HCODE.out
          rw [HCODE.out]
          have HREL3 := hid (brel_wrote hrelk hR3 hK3)
          clear hA3
          go_wp2_with fail
          go_roundw
          case rel => exact ⟨k + 1, _, by omega, by go_num, HREL3.out, HALLK.out⟩
          case measure => simp [intOf]; omega
        · have HRELK := hid (brel_kn (c' := 10 + 9 * (i + 1)) hrelk (by omega))
          have HALLK := hid hallk
          clear hallk
          go_wp2_with fail
          go_roundw
          case rel => exact ⟨i + 1, A2, by omega, by go_num, HRELK.out, HALLK.out⟩
          case measure => simp [intOf]; omega
    · go_upto_if 55 with fail
      go_cut [] (fun wx => ∃ A', Bare w wx mb A')
      case first =>
        cases gone with
        | true =>
          go_wp2_with fail
          refine (xDestroy hrel.run 1 (in64_lit (by omega) (by omega))).mono ?_
          rintro e w2 ⟨A', rfl, hR', hK', hA', _⟩
          have hh : A.has 1 = true := hrel.fill.has
          obtain ⟨fr', rfl, _, _⟩ := hA' hh
          rw [hh, if_pos rfl]
          have HB := hid (gone_bare hrel (by omega) hR' hK')
          clear hA'
          go_wp2_with fail
          go_meet
          case rel => exact ⟨_, HB.out⟩
        | false =>
          have HU := hid (urel_start hrel (by omega))
          go_wp2_with fail
          go_loopw [15] (fun c wr => ∃ (j : Nat) (A : Abs), j ≤ i ∧ c = .int .i64 j ∧ URel w wr mb A j i) (fun c _ => i - (intOf c).toNat)
          case atStart => exact ⟨0, A, by omega, rfl, HU.out⟩
          case round =>
            obtain ⟨j, A2, hj, rfl, hrel2⟩ := hrel
            clear HU
            by_cases hlt2 : (j : Int) < 1 + q1
            · have HCODE := hid (urel_code hrel2 (by omega) (by omega))
              have hkn : A2.kn < maxLen := by have := hrel2.kn; unfold maxLen; omega
              have HK := hid hkn
              clear hkn
              go_wp2_with fail
              refine (xUnmap hrel2.run 1 j (in64_lit (by omega) (by omega)) HK.out).mono ?_
              rintro e w2 ⟨A', rfl, hR', hK', hA', _⟩
              obtain ⟨fr', rfl, _⟩ := hA' HCODE.out
              rw [HCODE.out]
              have HU2 := hid (urel_step hrel2 hR' hK')
              clear hA'
              go_wp2_with fail
              go_roundw
              case rel => exact ⟨j + 1, _, by omega, by go_num, HU2.out⟩
              case measure => simp [intOf]; omega
            · have ej : j = i := by omega
              subst ej
              have HB := hid (urel_end hrel2 (by omega))
              go_wp2_with fail
              go_meet
              case rel => exact ⟨_, HB.out⟩
      case rest =>
        obtain ⟨A', hbare⟩ := hcut
        clear hrel hall
        go_wp2_with fail
        refine (pick_any _ at' 3 hat.1 hat.2 (by omega) (by omega)).mono ?_
        rintro e w2 ⟨rfl, rfl⟩
        clear hat
        generalize pickI at' 3 = q3 at *
        obtain ⟨hb0, hz0, hF⟩ := bare_start hbare (16 * q3).toNat
        have HB0 := hid hb0
        have HZ0 := hid hz0
        generalize A'.free = F at *
        clear hb0 hz0 hbare
        go_wp2_with fail
        go_loopw [18] (fun c wr => ∃ (j : Nat) (A : Abs), j ≤ 14 ∧ c = .int .i64 j ∧ BRel w wr mb A 2 (16 * q3).toNat j F (1000 + 9 * j) ∧ Nought A 2) (fun c _ => 14 - (intOf c).toNat)
        case atStart => exact ⟨0, A', by omega, rfl, HB0.out, HZ0.out⟩
        case round =>
          obtain ⟨j, A2, hj, rfl, hrel, hz⟩ := hrel
          clear HB0 HZ0
          by_cases hlt2 : j < 14
          · obtain ⟨hcode, hfill⟩ := fill_mapI (p := 16 * q3 + j) hrel.fill (by omega) (by omega) hlt2 hF (by omega)
            have HCODE := hid hcode
            have HFILL := hid hfill
            have HK := hid (brel_lt hrel (by omega))
            have HZ := hid hz
            clear hcode hfill hz
            go_wp2_with fail
            refine (xMap hrel.run 2 (16 * q3 + j) false (in64_lit (by omega) (by omega)) HK.out).mono ?_
            rintro e w2 ⟨A3, rfl, hR', hK', hA', _⟩
            obtain ⟨f, _, rfl⟩ := hA' HCODE.out
            rw [HCODE.out]
            have HREL2 := hid (brel_mapped (p := 16 * q3 + j) hrel hR' hK' (HFILL.out f false))
            have HZ2 : Hid (Nought (A2.mapped 2 (16 * q3 + (j : Int)).toNat f false) 2) := nought_mapped HZ.out
            clear hA' HFILL HCODE
            go_wp2_with fail
            go_loopw [20] (fun c wr => ∃ (k : Nat) (A4 : Abs), k ≤ 8 ∧ c = .int .i64 k ∧ BRel w wr mb A4 2 (16 * q3).toNat (j + 1) F (1000 + 9 * j + 1 + k) ∧ Nought A4 2) (fun c _ => 8 - (intOf c).toNat)
            case atStart => exact ⟨0, _, by omega, rfl, HREL2.out, HZ2.out⟩
            case round =>
              obtain ⟨k, A4, hk, rfl, hrelk, hzk⟩ := hrel
              clear HREL2 HZ2
              by_cases hk8 : k < 8
              · have hcode := fill_readI (j := j) (k := k) (a := 8 * (16 * q3 + (j : Int)) + k) hrelk.fill hzk (by omega) (by omega) hk8 (by omega)
                have HCODE := hid hcode
                have HK2 := hid (brel_lt hrelk (by omega))
                have HZK := hid hzk
                clear hcode hzk
                go_wp2_with fail
                refine (xRead hrelk.run 2 (8 * (16 * q3 + (j : Int)) + k) (in64_lit (by omega) (by omega)) HK2.out).mono ?_
                rintro e w3 ⟨A5, rfl, hR3, hK3, hA3⟩
                rw [HCODE.out]
                have HREL3 := hid (brel_tick hrelk hR3 hK3 hA3)
                have HZ3 := hid (nought_tick hA3 HZK.out)
                clear hA3
                go_wp2_with fail
                go_roundw
                case rel => exact ⟨k + 1, _, by omega, by go_num, HREL3.out, HZ3.out⟩
                case measure => simp [intOf]; omega
              · have HRELK := hid (brel_kn (c' := 1000 + 9 * (j + 1)) hrelk (by omega))
                have HZK := hid hzk
                clear hzk
                go_wp2_with fail
                go_roundw
                case rel => exact ⟨j + 1, A4, by omega, by go_num, HRELK.out, HZK.out⟩
                case measure => simp [intOf]; omega
          · go_wp2_with fail
            go_ret
            exact ⟨rfl, hrel.keep.below (fun b hb => hb)⟩
end Go.Proofs.Ytfcepnhknmbaaaa
