/-
  What is proved: what dfa.key returns on a list of positions below 256: the string of their bytes. What lay in memory before stands as it stood.
-/
import Derived.Test.YtchobpfdmkgnoaaNfTake
namespace Go.Proofs.Ytchobpfdmkgnoaa
open Go.RowKit Go.Shelf

/-- Positions as bytes. -/
def keyL (zs : List Int) : List UInt8 := zs.map fun x => UInt8.ofNat x.toNat
def Small (zs : List Int) : Prop := ∀ x, x ∈ zs → 0 ≤ x ∧ x < 256
theorem Small.at {zs : List Int} (h : Small zs) {k : Nat} (hk : k < zs.length) : ∃ c : UInt8, zs.getD k 0 = (c.toNat : Int) ∧ UInt8.ofNat (zs.getD k 0).toNat = c := by
  have hx : zs.getD k 0 ∈ zs := by simp [List.getD, hk]
  obtain ⟨h0, h1⟩ := h _ hx
  refine ⟨UInt8.ofNat (zs.getD k 0).toNat, ?_, rfl⟩
  rw [UInt8.toNat_ofNat']
  omega
theorem keyL_inj : ∀ {a b : List Int}, Small a → Small b → keyL a = keyL b → a = b
  | [], [], _, _, _ => rfl
  | [], _ :: _, _, _, h => by simp [keyL] at h
  | _ :: _, [], _, _, h => by simp [keyL] at h
  | x :: a, y :: b, ha, hb, h => by
    simp only [keyL, List.map_cons, List.cons.injEq] at h
    have hx := ha x (by simp)
    have hy := hb y (by simp)
    have e : x = y := by
      have := congrArg UInt8.toNat h.1
      rw [UInt8.toNat_ofNat', UInt8.toNat_ofNat'] at this
      omega
    rw [e, keyL_inj (fun z hz => ha z (by simp [hz])) (fun z hz => hb z (by simp [hz])) h.2]
theorem keyL_snoc (zs : List Int) {k : Nat} {c : UInt8} (hk : k < zs.length) (hc : UInt8.ofNat (zs.getD k 0).toNat = c) : keyL (zs.take (k + 1)) = keyL (zs.take k) ++ [c] := by
  unfold keyL
  rw [take_int zs k hk, List.map_append, List.map_cons, List.map_nil, hc]
theorem small_ints {n : Nat} {g : Nat → Bool} (h : n ≤ 256) : Small (intsF n g) := by
  intro x hx
  obtain ⟨i, rfl, hi, _⟩ := mem_intsF.1 hx
  omega

theorem byte_wrap (c : UInt8) : IntKind.u8.wrap (c.toNat : Int) = (c.toNat : Int) := by
  have := c.toNat_lt
  unfold IntKind.wrap
  simp [IntKind.bits, IntKind.signed]
  omega

set_option maxHeartbeats 2000000 in
theorem key_any {w : World} {v : Value} {zs : List Int} (hv : Ints w v zs) (hz : zs.length ≤ 1000) (hs : Small zs) :
    Calls Try.prog 36 #[v] w fun e w' => e = .returned (.string (str (keyL zs))) ∧ Below w.heap.size w w' := by
  obtain ⟨a, cap, rfl, hcell⟩ := hv.reads
  clear hv
  obtain ⟨n, hn⟩ : ∃ n, zs.length = n := ⟨_, rfl⟩
  rw [hn] at hz hcell
  rw [hn]
  have HN := Lib.hid hn
  have HS := Lib.hid hs
  clear hn hs
  have HF : Hid (Lib.IsBuilderF 70 5 w.heap.size w.heap.size (Lib.byteCells []) (w.alloc (.cells #[.pointer none, .slice none 0 0] 70))) := Lib.hid (Lib.IsBuilderF.of (Lib.fresh_isBuilder _ _ w))
  have HB0 : Hid (Below w.heap.size w (w.alloc (.cells #[.pointer none, .slice none 0 0] 70))) := Lib.hid ((Below.refl _ w).alloc (Nat.le_refl _) _)
  have hbw := byte_wrap
  go_enter Try.func36, Try.ntmps36
  go_wp2
  go_loopg [5, 8] n (fun gk s5 s8 wr => ∃ k : Nat, k + gk = n ∧ s8 = .int .i64 k ∧ Hid (Lib.IsBuilderF 70 5 w.heap.size w.heap.size (Lib.byteCells (keyL (zs.take k))) wr) ∧ Hid (Below w.heap.size w wr))
  case atStart => exact ⟨0, by omega, rfl, HF, HB0⟩
  case round =>
    obtain ⟨k, hkg, rfl, HU, HB⟩ := hrel
    clear HF HB0
    cases gk with
    | zero =>
      have hkz : ¬ ((k : Int) < (n : Int)) := by omega
      have HE : Hid (keyL (zs.take k) = keyL zs) := Lib.hid (by rw [List.take_of_length_le (by have := HN.out; omega)])
      have C := Lib.hid (Try.Builder_String_any_k w.heap.size w.heap.size (keyL (zs.take k)) wr HU.out HB.out.size)
      go_wp2_with fail
      refine C.out.mono ?_
      rintro e w2 ⟨rfl, _, b2, _⟩
      go_wp2
      go_ret
      exact ⟨by rw [← HE.out]; rfl, HB.out.trans b2⟩
    | succ g' =>
      have hkz : (k : Int) < (n : Int) := by omega
      have hkn : k < n := by omega
      obtain ⟨b', off, rfl, hc⟩ := hcell.out wr HB.out k hkn
      obtain ⟨c, e1, e2⟩ := HS.out.at (k := k) (by have := HN.out; omega)
      have HK := Lib.hid (keyL_snoc zs (by have := HN.out; omega) e2)
      rw [e1] at hc
      clear e1 e2 hcell
      have C1 := Lib.hid (wb w.heap.size (keyL (zs.take k)) c wr HU.out (by simp [keyL]; omega) HB.out.size)
      go_wp2_with fail
      refine C1.out.mono ?_
      rintro e w2 ⟨rfl, u2, b2⟩
      go_wp2
      go_roundg g'
      case measure => omega
      case rel => exact ⟨k + 1, by omega, iv (by omega), Lib.hid (by rw [HK.out]; exact u2), Lib.hid (HB.out.trans b2)⟩
end Go.Proofs.Ytchobpfdmkgnoaa
