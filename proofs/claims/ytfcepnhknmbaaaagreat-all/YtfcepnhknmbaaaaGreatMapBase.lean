/- A map in a block, told as a function from keys to the elements' values ('MapIs'), with its laws: made, looked up, stored, struck, its length. No program is named here. -/
import Derived.Test.YtfcepnhknmbaaaaGreatBase
import Derived.Maps.OwnSet
import Derived.DeepKeys4
namespace Go.Proofs.YtfcepnhknmbaaaaGreat
open Go.RowKit Go.Deep
open Go.Maps (Keyed)

/-- An element is told by its value. -/
def idElem (v : Value) : Option (DataW Value × List MemPlace) := some (.held v, [])

def put {ι : Type} [DecidableEq ι] (F : ι → Option Value) (i : ι) (o : Option Value) (j : ι) : Option Value := if j = i then o else F j

/-- Block b is a map of c entries (n bounds them); at the key of i stands what F tells. -/
def MapIs {ι : Type} (P : Program) (k : TypeId) (kv : ι → Value) (w : World) (b n c : Nat) (F : ι → Option Value) : Prop :=
  ∃ D : DataW Value, w.ownsMap P k idElem b n D ∧ Maps.size D = c ∧ ∀ i l, keyOf P k (kv i) = some l → Maps.has D l = (F i).isSome ∧ ∀ v, F i = some v → ∀ zd, D.atKey l zd = .held v

namespace MapIs
variable {ι : Type} {P : Program} {k : TypeId} {kv : ι → Value} {w w' : World} {b n c : Nat} {F : ι → Option Value}

theorem lt (h : MapIs P k kv w b n c F) : b < w.heap.size := by obtain ⟨D, ho, _⟩ := h; exact ho.lt

theorem block (h : MapIs P k kv w b n c F) : ∃ es clock, w.heap[b]? = some (.map es clock) := by
  obtain ⟨D, ⟨es, clock, hb, _⟩, _⟩ := h
  exact ⟨es, clock, hb⟩

theorem mono (h : MapIs P k kv w b n c F) {n' : Nat} (hn : n ≤ n') : MapIs P k kv w b n' c F := by
  obtain ⟨D, ho, r⟩ := h
  exact ⟨D, ho.mono hn, r⟩

theorem only {S : Nat → Prop} (h : MapIs P k kv w b n c F) (o : Only S w w') (hs : ¬ S b) : MapIs P k kv w' b n c F := by
  have hl := h.lt
  obtain ⟨D, ⟨es, clock, hb, r⟩, q⟩ := h
  exact ⟨D, ⟨es, clock, by rw [o.block b hl hs]; exact hb, r⟩, q⟩

theorem nob (h : MapIs P k kv w b n c F) (o : Only Nob w w') : MapIs P k kv w' b n c F := h.only o (fun h => h)

theorem made (P : Program) (k : TypeId) (kv : ι → Value) (w : World) : MapIs P k kv (w.alloc (.map #[] 0)) w.heap.size 0 0 (fun _ => none) :=
  ⟨.map [], World.ownsMap_made w P k idElem, rfl, fun _ _ _ => ⟨rfl, fun _ h => by cases h⟩⟩

theorem setCell (h : MapIs P k kv w b n c F) {a : Addr} (ha : b ≠ a.block) (u : Value) : MapIs P k kv (w.setCell a u) b n c F := by
  obtain ⟨D, ho, r⟩ := h
  exact ⟨D, ho.setCell ha u, r⟩

/-- The number of entries bounds them. -/
theorem tight (h : MapIs P k kv w b n c F) : MapIs P k kv w b c c F := by
  obtain ⟨D, ⟨es, clock, hb, hF, hs, hD⟩, hc, r⟩ := h
  refine ⟨D, ⟨es, clock, hb, hF, ?_, hD⟩, hc, r⟩
  rw [← hc, hD]
  simp [Maps.size, length_sorted]

theorem look_ok {t e : TypeId} (h : MapIs P k kv w b n c F) (K : Keyed P k) (ht : P.underlying t = some (.map k e)) {z : Value} (hz : (zeroValue e).run P w = .ok z w) {i : ι} {l : Lit} (hkey : keyOf P k (kv i) = some l) :
    (Instr.lookup t (.map (some b)) (kv i) true).run P w = .ok (.tuple #[(F i).getD z, .bool (F i).isSome]) w := by
  obtain ⟨D, ho, _, hr⟩ := h
  obtain ⟨h1, h2⟩ := hr i l hkey
  obtain ⟨v, ps, hrun, hv⟩ := ho.look_ok K ht hz (zd := .held z) (zp := []) rfl hkey
  rw [hrun, h1]
  cases hF : F i with
  | some x =>
    rw [h2 x hF] at hv
    simp [idElem] at hv
    simp [hv]
  | none =>
    rw [hF] at h1
    rw [Maps.atKey_of_not_has h1] at hv
    simp [idElem] at hv
    simp [hv]

theorem look {t e : TypeId} (h : MapIs P k kv w b n c F) (K : Keyed P k) (ht : P.underlying t = some (.map k e)) {z : Value} (hz : (zeroValue e).run P w = .ok z w) {i : ι} {l : Lit} (hkey : keyOf P k (kv i) = some l) :
    (Instr.lookup t (.map (some b)) (kv i) false).run P w = .ok ((F i).getD z) w := by
  obtain ⟨D, ho, _, hr⟩ := h
  obtain ⟨h1, h2⟩ := hr i l hkey
  obtain ⟨v, ps, hrun, hv⟩ := ho.lookup K ht hz (zd := .held z) (zp := []) rfl hkey
  rw [hrun]
  cases hF : F i with
  | some x =>
    rw [h2 x hF] at hv
    simp [idElem] at hv
    simp [hv]
  | none =>
    rw [hF] at h1
    rw [Maps.atKey_of_not_has h1] at hv
    simp [idElem] at hv
    simp [hv]

theorem len {t e : TypeId} (h : MapIs P k kv w b n c F) (ht : P.underlying t = some (.map k e)) (ty : TypeId) : (Builtin.len_ #[t] ty #[.map (some b)]).run P w = .ok (.int .i64 c) w := by
  obtain ⟨D, ho, hc, _⟩ := h
  rw [ho.len ht ty, hc]

theorem only_of_turned (h : w.mapTurned w' b) : Only (One b) w w' := by
  have g := h.grown
  exact ⟨g.os, g.tape, g.output, g.size, fun i hi hs => g.block i hi (fun e => hs (by simpa [One] using e))⟩

variable [DecidableEq ι]

theorem store {t e : TypeId} (h : MapIs P k kv w b n c F) (K : Keyed P k) (ht : P.underlying t = some (.map k e)) (hn : n < maxLen) (hinj : ∀ i j, kv i = kv j → i = j) {i : ι} {l : Lit} (hkey : keyOf P k (kv i) = some l) (v : Value) :
    ∃ w', (Instr.mapUpdate t (.map (some b)) (kv i) v).run P w = .ok () w' ∧ MapIs P k kv w' b (n + 1) (if (F i).isSome then c else c + 1) (put F i (some v)) ∧ Only (One b) w w' := by
  obtain ⟨D, ho, hc, hr⟩ := h
  obtain ⟨w', hrun, ho', ht'⟩ := ho.store K ht hn hkey (val := v) (d := .held v) (ps := []) rfl
  refine ⟨w', hrun, ⟨_, ho', ?_, fun j lj hj => ?_⟩, only_of_turned ht'⟩
  · rw [Maps.size_put (ho.tidy K), (hr i l hkey).1, hc]
  · by_cases e1 : j = i
    · subst e1
      have e2 : lj = l := by rw [hkey] at hj; exact (Option.some.inj hj).symm
      subst e2
      refine ⟨by rw [Maps.has_put_same ho.isMap (K.key hkey)]; simp [put], fun x hx zd => ?_⟩
      rw [Maps.atKey_put_same ho.isMap (K.key hkey)]
      simp [put] at hx
      rw [hx]
    · have hne : lj ≠ l := fun e2 => e1 (hinj _ _ (K.inj (by rw [hj, e2]) hkey))
      refine ⟨by rw [Maps.has_put_other hne, (hr j lj hj).1]; simp [put, e1], fun x hx zd => ?_⟩
      rw [Maps.atKey_put_other hne]
      simp [put, e1] at hx
      exact (hr j lj hj).2 x hx zd

theorem drop {t e : TypeId} (h : MapIs P k kv w b n c F) (K : Keyed P k) (ht : P.underlying t = some (.map k e)) (hinj : ∀ i j, kv i = kv j → i = j) {i : ι} {l : Lit} (hkey : keyOf P k (kv i) = some l) (ty : TypeId) :
    ∃ w', (Builtin.delete_ #[t, k] ty #[.map (some b), kv i]).run P w = .ok (.tuple #[]) w' ∧ MapIs P k kv w' b n (if (F i).isSome then c - 1 else c) (put F i none) ∧ Only (One b) w w' := by
  obtain ⟨D, ho, hc, hr⟩ := h
  obtain ⟨w', hrun, ho', ht'⟩ := ho.drop K ht hkey ty
  refine ⟨w', hrun, ⟨_, ho', ?_, fun j lj hj => ?_⟩, only_of_turned ht'⟩
  · have h1 := Maps.size_del (k := l) (ho.tidy K)
    rw [(hr i l hkey).1] at h1
    split at h1 <;> rename_i h2 <;> simp only [h2] <;> simp <;> omega
  · by_cases e1 : j = i
    · subst e1
      have e2 : lj = l := by rw [hkey] at hj; exact (Option.some.inj hj).symm
      subst e2
      exact ⟨by rw [Maps.has_del_same]; simp [put], fun x hx => by simp [put] at hx⟩
    · have hne : lj ≠ l := fun e2 => e1 (hinj _ _ (K.inj (by rw [hj, e2]) hkey))
      refine ⟨by rw [Maps.has_del_other hne, (hr j lj hj).1]; simp [put, e1], fun x hx zd => ?_⟩
      rw [Maps.atKey_del_other hne]
      simp [put, e1] at hx
      exact (hr j lj hj).2 x hx zd
end MapIs
end Go.Proofs.YtfcepnhknmbaaaaGreat
