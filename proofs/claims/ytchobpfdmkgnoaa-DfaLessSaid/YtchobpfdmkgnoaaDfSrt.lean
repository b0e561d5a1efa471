/-
  What is proved: slices.Sort sorts bytes in memory, however many up to 1,000,000. Nothing else that lay in memory is changed.
-/
import Derived.Test.YtchobpfdmkgnoaaDfTot
import Derived.Deep.RegionHeld
namespace Go.Proofs.Ytchobpfdmkgnoaa
open Go.RowKit Go.Shelf Go.Sort

theorem lenAux_le : ∀ (f x : Nat), Lib.bitLenAux f x ≤ f
  | 0, _ => Nat.le_refl _
  | f + 1, x => by
      unfold Lib.bitLenAux
      split
      · omega
      · have := lenAux_le f (x / 2)
        omega

theorem sort_any (n blk cap : Nat) (d : Array UInt8) (w : World) (hn : d.size = n) (hH : Holds encB w blk 0 d) (h12 : 12 < n) (hsz : n ≤ 1000000) :
    Calls Try.prog 51 #[.slice (some ⟨blk, 0, none⟩) n cap] w fun e w' => e = .returned (.tuple #[]) ∧ ∃ d', Holds encB w' blk 0 d' ∧ SortsU d d' ∧ OnlyAt blk w.heap.size w w' := by
  have hlt : blk < w.heap.size := World.block_lt_of_cell? w _ ((hH 0 (by omega)).1)
  obtain ⟨bl, hbl⟩ : ∃ bl, Lib.bitLen (n : Int).toNat = bl := ⟨_, rfl⟩
  have hbl64 : bl ≤ 64 := by rw [← hbl]; exact lenAux_le 64 _
  have C := Lib.hid (pdq_any n blk 0 cap hsz (n + 1) w d 0 n bl (by omega) hH hn hlt (Nat.zero_le _) (Nat.le_refl _) (by omega) (.inl rfl))
  have C2 := Lib.hid (Try.bits_Len (n : Int) w (by omega) (by omega))
  rw [hbl] at C2
  have HI : Hid (SortsU d (pdq ltB d 0 n bl true true)) := Lib.hid (by
    have := pdq_stm swo_ltB d 0 n bl true true (Nat.zero_le _) (by omega) (.inl rfl)
    unfold SortsU
    rw [hn]
    exact this)
  obtain ⟨D, hD⟩ : ∃ D, pdq ltB d 0 n bl true true = D := ⟨_, rfl⟩
  rw [hD] at C HI
  have hw : IntKind.u64.wrap (n : Int) = (n : Int) := by
    unfold IntKind.wrap
    simp [IntKind.bits, IntKind.signed]
    omega
  clear hH hn hD hbl
  go_enter Try.func51, Try.ntmps51
  go_wp2_with (first
    | (go_at_call 66; refine C2.out.mono ?_; rintro e w' ⟨rfl, rfl⟩)
    | (go_at_call 65; refine C.out.mono ?_; rintro e w' ⟨rfl, h1, h2⟩))
  go_end0
  exact ⟨rfl, D, h1, HI.out, h2⟩

theorem sortsN_any {n : Nat} (h : n ≤ 1000000) : SortsN n := by
  by_cases h12 : n ≤ 12
  · exact sortsN_small h12
  · exact fun blk cap d w hd hH => sort_any n blk cap d w hd hH (by omega) h
end Go.Proofs.Ytchobpfdmkgnoaa
