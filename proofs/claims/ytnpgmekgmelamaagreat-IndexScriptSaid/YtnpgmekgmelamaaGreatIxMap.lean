/-
  What is proved: maps in memory whose elements are told as they lie there: what is at each key; look-ups, stores, deletions.
-/
import Derived.Test.YtnpgmekgmelamaaGreatIxMath
import Derived.Maps.RangeWalk
import Derived.Maps.OwnSet
import Derived.Maps.OwnOps

namespace Go.Proofs.YtnpgmekgmelamaaGreat
open Go.RowKit Go.Shelf Go.Maps

def heldR (v : Value) : Option (DataW Value × List MemPlace) := some (.held v, [])
theorem lawI : Keyed Tryz.prog 3 := int_keyed Tryz.underlying3
theorem lawS : Keyed Tryz.prog 9 := string_keyed Tryz.underlying9

/-- Block b is a map of c entries; F: what is at each key. -/
def MapL (k : TypeId) (W : World) (b c : Nat) (F : Lit → Option Value) : Prop :=
  ∃ D, W.ownsMap Tryz.prog k heldR b c D ∧ Maps.size D = c ∧ ∀ kl, KeysOf Tryz.prog k kl → Maps.has D kl = (F kl).isSome ∧ ∀ v, F kl = some v → ∀ z, D.atKey kl z = .held v

theorem owns_tight {w : World} {k : TypeId} {b n : Nat} {D : DataW Value} (h : w.ownsMap Tryz.prog k heldR b n D) : w.ownsMap Tryz.prog k heldR b (Maps.size D) D := by
  obtain ⟨es, clock, hb, F, hs, hD⟩ := h
  refine ⟨es, clock, hb, F, ?_, hD⟩
  rw [hD]
  simp [Maps.size, length_sorted]

section
variable {k : TypeId} {W : World} {b c : Nat} {F : Lit → Option Value}

theorem MapL.congr {F' : Lit → Option Value} (h : MapL k W b c F) (e : ∀ kl, KeysOf Tryz.prog k kl → F' kl = F kl) : MapL k W b c F' := by
  obtain ⟨D, h1, h2, h3⟩ := h
  exact ⟨D, h1, h2, fun kl hk => by rw [e kl hk]; exact h3 kl hk⟩
theorem MapL.lt (h : MapL k W b c F) : b < W.heap.size := by obtain ⟨D, h1, _⟩ := h; exact h1.lt
theorem MapL.same {W' : World} (h : MapL k W b c F) (e : W'.heap[b]? = W.heap[b]?) : MapL k W' b c F := by
  obtain ⟨D, ⟨es, clock, hb, hf, hs, hD⟩, h2⟩ := h
  exact ⟨D, ⟨es, clock, e.trans hb, hf, hs, hD⟩, h2⟩
theorem MapL.made (W : World) (k : TypeId) : MapL k (W.alloc (.map #[] 0)) W.heap.size 0 (fun _ => none) :=
  ⟨_, World.ownsMap_made W Tryz.prog k heldR, rfl, fun kl _ => ⟨rfl, fun v hv => (by cases hv)⟩⟩
theorem key_ok {kl : Lit} {key : Value} (hk : keyOf Tryz.prog k key = some kl) : KeysOf Tryz.prog k kl := ⟨key, hk⟩

theorem MapL.at {D : DataW Value} (hD : W.ownsMap Tryz.prog k heldR b c D ∧ Maps.size D = c ∧ ∀ kl, KeysOf Tryz.prog k kl → Maps.has D kl = (F kl).isSome ∧ ∀ v, F kl = some v → ∀ z, D.atKey kl z = .held v)
    {kl : Lit} (hk : KeysOf Tryz.prog k kl) (z : Value) : D.atKey kl (.held z) = .held ((F kl).getD z) := by
  obtain ⟨h1, h2⟩ := hD.2.2 kl hk
  cases e : F kl with
  | none =>
    rw [e] at h1
    rw [Maps.atKey_of_not_has h1]; rfl
  | some v => rw [h2 v e]; rfl

theorem MapL.look {t e : TypeId} (h : MapL k W b c F) (K : Keyed Tryz.prog k) (ht : Tryz.prog.underlying t = some (.map k e)) {z : Value} (hz : (zeroValue e).run Tryz.prog W = .ok z W) {key : Value} {kl : Lit} (hkey : keyOf Tryz.prog k key = some kl) :
    (Instr.lookup t (.map (some b)) key false).run Tryz.prog W = .ok ((F kl).getD z) W := by
  obtain ⟨D, hD⟩ := h
  obtain ⟨v, ps, hrun, hv⟩ := hD.1.lookup K ht hz (zd := .held z) (zp := []) rfl hkey
  rw [MapL.at hD (key_ok hkey) z] at hv
  have : v = (F kl).getD z := by
    unfold heldR at hv
    simpa using congrArg (fun o => o.map Prod.fst) hv
  rw [hrun, this]
theorem MapL.look2 {t e : TypeId} (h : MapL k W b c F) (K : Keyed Tryz.prog k) (ht : Tryz.prog.underlying t = some (.map k e)) {z : Value} (hz : (zeroValue e).run Tryz.prog W = .ok z W) {key : Value} {kl : Lit} (hkey : keyOf Tryz.prog k key = some kl) :
    (Instr.lookup t (.map (some b)) key true).run Tryz.prog W = .ok (.tuple #[(F kl).getD z, .bool (F kl).isSome]) W := by
  obtain ⟨D, hD⟩ := h
  obtain ⟨v, ps, hrun, hv⟩ := hD.1.look_ok K ht hz (zd := .held z) (zp := []) rfl hkey
  rw [MapL.at hD (key_ok hkey) z] at hv
  have : v = (F kl).getD z := by
    unfold heldR at hv
    simpa using congrArg (fun o => o.map Prod.fst) hv
  rw [hrun, this, (hD.2.2 kl (key_ok hkey)).1]
theorem MapL.len {t e : TypeId} (h : MapL k W b c F) (ht : Tryz.prog.underlying t = some (.map k e)) (ty : TypeId) : (Builtin.len_ #[t] ty #[.map (some b)]).run Tryz.prog W = .ok (.int .i64 (c : Int)) W := by
  obtain ⟨D, hD⟩ := h
  have := hD.1.len ht ty
  rw [hD.2.1] at this
  exact this
theorem MapL.put {t e : TypeId} (h : MapL k W b c F) (K : Keyed Tryz.prog k) (ht : Tryz.prog.underlying t = some (.map k e)) (hc : c < maxLen) {key : Value} {kl : Lit} (hkey : keyOf Tryz.prog k key = some kl) (v : Value) :
    ∃ w', (Instr.mapUpdate t (.map (some b)) key v).run Tryz.prog W = .ok () w' ∧ (∀ F' : Lit → Option Value, (∀ x, KeysOf Tryz.prog k x → (x = kl → F' x = some v) ∧ (x ≠ kl → F' x = F x)) → MapL k w' b (if (F kl).isSome then c else c + 1) F') ∧ W.grownBy w' (some b) := by
  obtain ⟨D, hown, hs, hF⟩ := h
  obtain ⟨w', hrun, h1, h2⟩ := hown.store K ht hc hkey (val := v) (d := .held v) (ps := []) rfl
  have hkl : WideAt.IsKeyLit kl := K.one.key (key_ok hkey)
  refine ⟨w', hrun, fun F' hF' => ⟨D.put kl (.held v), ?_, ?_, fun x hx => ?_⟩, h2.grown⟩
  · have e1 := Maps.size_put (hown.tidy K) (k := kl) (d := .held v)
    have := owns_tight h1
    rw [e1, (hF kl (key_ok hkey)).1, hs] at this
    exact this
  · rw [Maps.size_put (hown.tidy K), (hF kl (key_ok hkey)).1, hs]
  · by_cases e1 : x = kl
    · subst e1
      rw [(hF' x hx).1 rfl]
      refine ⟨by rw [Maps.has_put_same hown.isMap hkl]; rfl, fun v' hv' z => ?_⟩
      have hv2 : v = v' := Option.some.inj hv'
      rw [← hv2]
      exact Maps.atKey_put_same hown.isMap hkl _ z
    · rw [(hF' x hx).2 e1]
      obtain ⟨g1, g2⟩ := hF x hx
      exact ⟨by rw [Maps.has_put_other e1]; exact g1, fun v' hv' z => by rw [Maps.atKey_put_other e1]; exact g2 v' hv' z⟩
theorem MapL.del {t e : TypeId} (h : MapL k W b c F) (K : Keyed Tryz.prog k) (ht : Tryz.prog.underlying t = some (.map k e)) {key : Value} {kl : Lit} (hkey : keyOf Tryz.prog k key = some kl) (ty : TypeId) :
    ∃ w', (Builtin.delete_ #[t, k] ty #[.map (some b), key]).run Tryz.prog W = .ok (.tuple #[]) w' ∧ (∀ F' : Lit → Option Value, (∀ x, KeysOf Tryz.prog k x → (x = kl → F' x = none) ∧ (x ≠ kl → F' x = F x)) → MapL k w' b (if (F kl).isSome then c - 1 else c) F') ∧ W.grownBy w' (some b) := by
  obtain ⟨D, hown, hs, hF⟩ := h
  obtain ⟨w', hrun, h1, h2⟩ := hown.drop K ht hkey ty
  have e2 : Maps.size (D.del kl) = if (F kl).isSome then c - 1 else c := by
    have e1 := Maps.size_del (hown.tidy K) (k := kl)
    rw [(hF kl (key_ok hkey)).1, hs] at e1
    split at e1 <;> rename_i h3
    · rw [if_pos h3]; omega
    · rw [if_neg h3]; omega
  refine ⟨w', hrun, fun F' hF' => ⟨D.del kl, ?_, e2, fun x hx => ?_⟩, h2.grown⟩
  · rw [← e2]; exact owns_tight h1
  · by_cases e1 : x = kl
    · subst e1
      rw [(hF' x hx).1 rfl]
      exact ⟨by rw [Maps.has_del_same]; rfl, fun v' hv' => by cases hv'⟩
    · rw [(hF' x hx).2 e1]
      obtain ⟨g1, g2⟩ := hF x hx
      exact ⟨by rw [Maps.has_del_other e1]; exact g1, fun v' hv' z => by rw [Maps.atKey_del_other e1]; exact g2 v' hv' z⟩
end

theorem keyI {i : Int} (h : (Lit.int .i64 i).wf = true) : keyOf Tryz.prog 3 (.int .i64 i) = some (.int .i64 i) := keyOf_int_mk Tryz.underlying3 h
theorem keyS {s : ByteArray} (h : s.size ≤ maxLen) : keyOf Tryz.prog 9 (.string s) = some (.string s.data.toList) := WideMaps.keyOf_string_mk Tryz.underlying9 h
theorem keysI {kl : Lit} (h : KeysOf Tryz.prog 3 kl) : ∃ i, kl = .int .i64 i ∧ (Lit.int .i64 i).wf = true := by
  obtain ⟨v, hv⟩ := h
  obtain ⟨x, _, e, hw⟩ := Maps.keyOf_int_inv Tryz.underlying3 hv
  exact ⟨x, e, hw⟩
end Go.Proofs.YtnpgmekgmelamaaGreat
