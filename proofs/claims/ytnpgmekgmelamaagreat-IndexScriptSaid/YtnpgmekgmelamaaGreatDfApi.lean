/-
  What is proved: what dfa.Check, Run and Build return on tables in memory and on globs; taken that slices.Sort sorts. What lay in memory before stands as it stood.
-/
import Derived.Test.YtnpgmekgmelamaaGreatDfRead
namespace Go.Proofs.YtnpgmekgmelamaaGreat
open Go.RowKit Go.Shelf Go.Maps

set_option maxHeartbeats 2000000 in
theorem check_ok {w : World} {cv nv av : Value} {cs : List Int} {rows : List (List Int)} {accs : List Bool} (h : DfaR w cv nv av cs rows accs) (hl : LightD cs rows accs) (hm : MayD cs rows accs) :
    Calls Tryz.prog 14 #[.agg #[cv, nv, av]] w fun e w' => e = .returned (.int .i64 0) ∧ Below w.heap.size w w' := by
  have hb0 : Below w.heap.size w (w.alloc (.cells #[cv, nv, av] 26)) := (Below.refl _ _).alloc (Nat.le_refl _) _
  have C := Lib.hid (read_ok (h.below hb0) hl hm)
  obtain ⟨ac, cc, hcv, _⟩ := h.cls.reads
  obtain ⟨an, cn, hnv, _⟩ := h.rows
  obtain ⟨aa, ca, hav, _⟩ := h.accs
  subst hcv hnv hav
  replace hb0 := Lib.hid hb0
  clear h hl hm
  go_enter Tryz.func14, Tryz.ntmps14
  go_wp2_with fail
  refine C.out.mono ?_
  rintro e w1 ⟨tb, rfl, _, _, hb1⟩
  have hb := hb0.out.trans (hb1.mono hb0.out.size)
  clear hb1 hb0 C
  go_wp2
  go_ret
  exact ⟨rfl, hb⟩

set_option maxHeartbeats 2000000 in
theorem run_ok {w : World} {cv nv av : Value} {cs : List Int} {rows : List (List Int)} {accs : List Bool} (h : DfaR w cv nv av cs rows accs) (hl : LightD cs rows accs) (hm : MayD cs rows accs) (s : ByteArray) (hs : s.size ≤ 1000000) :
    Calls Tryz.prog 16 #[.agg #[cv, nv, av], .string s] w fun e w' => e = .returned (.bool (accs.getD (runN rows (fun c => clsD cs c.toNat) s.data.toList 0) false)) ∧ Below w.heap.size w w' := by
  have hb0 : Below w.heap.size w (w.alloc (.cells #[cv, nv, av] 26)) := (Below.refl _ _).alloc (Nat.le_refl _) _
  have C := Lib.hid (read_ok (h.below hb0) hl hm)
  have CM : Hid (∀ W tb, Below w.heap.size w W → TabAt W tb (clsD cs) nv av → Calls Tryz.prog 57 #[.pointer (some ⟨tb, 0, none⟩), .string s] W fun e w' => e = .returned (.bool (accs.getD (runN rows (fun c => clsD cs c.toNat) s.data.toList 0) false)) ∧ Below W.heap.size W w') := Lib.hid (fun W tb hW ht => match_any ht (h.rows.below hW) (h.accs.below hW) hm s hs)
  obtain ⟨ac, cc, hcv, _⟩ := h.cls.reads
  obtain ⟨an, cn, hnv, _⟩ := h.rows
  obtain ⟨aa, ca, hav, _⟩ := h.accs
  subst hcv hnv hav
  obtain ⟨R, hR⟩ : ∃ R, accs.getD (runN rows (fun c => clsD cs c.toNat) s.data.toList 0) false = R := ⟨_, rfl⟩
  rw [hR] at CM
  rw [hR]
  replace hb0 := Lib.hid hb0
  clear h hl hm hR
  go_enter Tryz.func16, Tryz.ntmps16
  go_wp2_with fail
  refine C.out.mono ?_
  rintro e w1 ⟨tb, rfl, _, ht, hb1⟩
  have hb := hb0.out.trans (hb1.mono hb0.out.size)
  have CM1 := Lib.hid (CM.out _ _ hb ht)
  replace hb := Lib.hid hb
  clear hb1 hb0 C ht CM
  go_wp2_with fail
  refine CM1.out.mono ?_
  rintro e w2 ⟨rfl, hb2⟩
  have hbf := hb.out.trans (hb2.mono hb.out.size)
  clear hb2 hb CM1
  go_wp2
  go_ret
  exact ⟨rfl, hbf⟩

theorem isMost_any (n : Int) (w : World) : Calls Tryz.prog 45 #[.int .i64 n] w fun e w' => e = .returned (.bool (decide (1 ≤ n) && decide (n ≤ 256))) ∧ w' = w := by
  by_cases h : 1 ≤ n
  · have hd : decide ((1 : Int) ≤ n) = true := decide_eq_true h
    rw [hd, Bool.true_and]
    go_enter Tryz.func45, Tryz.ntmps45
    go_wp2
    go_ret
    exact ⟨rfl, rfl⟩
  · have hd : decide ((1 : Int) ≤ n) = false := decide_eq_false h
    rw [hd, Bool.false_and]
    go_enter Tryz.func45, Tryz.ntmps45
    go_wp2
    go_ret
    exact ⟨rfl, rfl⟩
end Go.Proofs.YtnpgmekgmelamaaGreat
