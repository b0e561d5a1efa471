/-
  What is proved: what dfa.New returns whatever comes in, and what Full, States and Match say of it. What lay in memory before stands as it stood.
-/
import Derived.Test.YtnpgmekgmelamaaGreatIxAuto
import Derived.Test.YtnpgmekgmelamaaGreatDfLess
namespace Go.Proofs.YtnpgmekgmelamaaGreat
open Go.RowKit Go.Shelf Go.Maps

theorem tabfull_any (tb : Nat) (w : World) :
    Calls Tryz.prog 196 #[.pointer (some ⟨tb, 0, none⟩)] w fun e w' => e = .returned (.bool false) ∧ w' = w := by
  go_enter Tryz.func196, Tryz.ntmps196
  go_wp2
  go_ret
  exact ⟨rfl, rfl⟩
theorem tabstates_any {w : World} {tb : Nat} {cl : Nat → Nat} {rows : List (List Int)} {accs : List Bool} {nv av : Value} (hM : Made w tb cl rows accs nv av) :
    Calls Tryz.prog 197 #[.pointer (some ⟨tb, 0, none⟩)] w fun e w' => e = .returned (.int .i64 (rows.length : Int)) ∧ w' = w := by
  have c1 := hM.tab.c1
  obtain ⟨a, c, rfl, _⟩ := hM.rows.reads
  obtain ⟨n, hn⟩ : ∃ n, rows.length = n := ⟨_, rfl⟩
  rw [hn] at c1
  rw [hn]
  clear hM hn
  go_enter Tryz.func197, Tryz.ntmps197
  go_wp2
  go_ret
  exact ⟨rfl, rfl⟩
theorem tfull_any {w : World} {b tb : Nat} (h : AutoAt w b (.iface 75 (.pointer (some ⟨tb, 0, none⟩)))) :
    Calls Tryz.prog 22 #[.pointer (some ⟨b, 0, none⟩)] w fun e w' => e = .returned (.bool false) ∧ Below w.heap.size w w' := by
  have c1 := h.c1
  have C := Lib.hid (amade_any h)
  have C2 := Lib.hid (tabfull_any tb w)
  clear h
  go_enter Tryz.func22, Tryz.ntmps22
  go_wp2_with (first
    | (go_at_call 63; refine C.out.mono ?_; rintro e w' ⟨rfl, rfl⟩)
    | (go_at_call 196; refine C2.out.mono ?_; rintro e w' ⟨rfl, rfl⟩))
  go_ret
  exact ⟨rfl, Below.refl _ _⟩
theorem tstates_any {w : World} {b tb : Nat} (h : AutoAt w b (.iface 75 (.pointer (some ⟨tb, 0, none⟩)))) {cl : Nat → Nat} {rows : List (List Int)} {accs : List Bool} {nv av : Value} (hM : Made w tb cl rows accs nv av) :
    Calls Tryz.prog 23 #[.pointer (some ⟨b, 0, none⟩)] w fun e w' => e = .returned (.int .i64 (rows.length : Int)) ∧ Below w.heap.size w w' := by
  have c1 := h.c1
  have C := Lib.hid (amade_any h)
  have C2 := Lib.hid (tabstates_any hM)
  obtain ⟨n, hn⟩ : ∃ n, rows.length = n := ⟨_, rfl⟩
  rw [hn] at C2
  rw [hn]
  clear h hM hn
  go_enter Tryz.func23, Tryz.ntmps23
  go_wp2_with (first
    | (go_at_call 63; refine C.out.mono ?_; rintro e w' ⟨rfl, rfl⟩)
    | (go_at_call 197; refine C2.out.mono ?_; rintro e w' ⟨rfl, rfl⟩))
  go_ret
  exact ⟨rfl, Below.refl _ _⟩

/-- What an automaton answers, as long as its blocks stand: full, n states, matches what the glob matches. -/
def Answers (W : World) (b : Nat) (f : Bool) (P : List UInt8) (full : Bool) (n : Nat) : Prop :=
  Calls Tryz.prog 22 #[.pointer (some ⟨b, 0, none⟩)] W (fun e w' => e = .returned (.bool full) ∧ Below W.heap.size W w') ∧
  Calls Tryz.prog 23 #[.pointer (some ⟨b, 0, none⟩)] W (fun e w' => e = .returned (.int .i64 (n : Int)) ∧ Below W.heap.size W w') ∧
  ∀ t : ByteArray, t.size ≤ 1000000 → Calls Tryz.prog 25 #[.pointer (some ⟨b, 0, none⟩), .string t] W (fun e w' => e = .returned (.bool (mt f P t.data.toList)) ∧ Below W.heap.size W w')

theorem auto_all (p : ByteArray) (f : Bool) (most : Int) (w : World) (hp60 : p.size ≤ 60) :
    Calls Tryz.prog 20 #[.string p, .bool f, .int .i64 most] w fun e w' =>
      ((∃ b n full, checkN p.size = 0 ∧ 1 ≤ most ∧ most ≤ 256 ∧ e = .returned (.tuple #[.pointer (some ⟨b, 0, none⟩), .int .i64 0]) ∧ (∀ W, Below w'.heap.size w' W → Answers W b f (normP p) full n) ∧
          (full = false ∧ Closed (cntL f (normP p)) (sampL (cntL f (normP p))) n ∧ (n : Int) ≤ most ∨ full = true ∧ n = 0 ∧ ∀ m : Nat, (m : Int) ≤ most → ¬ Closed (cntL f (normP p)) (sampL (cntL f (normP p))) m)) ∨
        (checkN p.size ≠ 0 ∧ e = .returned (.tuple #[.pointer none, .int .i64 (checkN p.size)])) ∨ (checkN p.size = 0 ∧ ¬ (1 ≤ most ∧ most ≤ 256) ∧ e = .returned (.tuple #[.pointer none, .int .i64 2]))) ∧ Below w.heap.size w w' := by
  by_cases hc : checkN p.size = 0
  · have hPl : (normP p).length ≤ 255 := Nat.le_trans (normP_len p) (by omega)
    by_cases hm : 1 ≤ most ∧ most ≤ 256
    · obtain ⟨m, rfl⟩ : ∃ m : Nat, most = (m : Int) := ⟨most.toNat, by omega⟩
      have hS : SortsN ((cntL f (normP p)).filter fun c => !wildC c).length := sortsN_any (by
        have h1 := List.length_filter_le (fun c => !wildC c) (cntL f (normP p))
        have h2 := cntL_len f (normP p)
        omega)
      refine (anew_any p f m w hc hS (by omega) (by omega)).mono ?_
      rintro e w1 ⟨⟨n, b, tb, nv, av, hn, hle, rfl, ha, hM, _, _⟩ | ⟨b, nb, hno, rfl, ha, ho, _, _⟩, hb⟩
      · refine ⟨.inl ⟨b, n, false, hc, hm.1, hm.2, rfl, fun W hW => ?_, .inl ⟨rfl, hn, by omega⟩⟩, hb⟩
        have ha' := ha.below hW ha.lt
        have hM' := hM.below hW
        refine ⟨tfull_any ha', ?_, fun t ht => tmatch_any ha' hn (by omega) hM' t ht⟩
        have := tstates_any ha' hM'
        rwa [tabRows_len hn] at this
      · refine ⟨.inl ⟨b, 0, true, hc, hm.1, hm.2, rfl, fun W hW => ?_, .inr ⟨rfl, rfl, fun m' h => hno m' (by omega)⟩⟩, hb⟩
        have ha' := ha.below hW ha.lt
        have ho' := ho.below hW ho.lt
        exact ⟨ofull_any ha', ostates_any ha', fun t ht => omatch_any ha' ho' (by omega) (normP_no p) t ht⟩
    · refine (anew_most p f most w hc (by
        rcases Classical.not_and_iff_not_or_not.1 hm with h | h
        · rw [decide_eq_false h, Bool.false_and]
        · rw [decide_eq_false h, Bool.and_false])).mono ?_
      rintro e w1 ⟨rfl, hb⟩
      exact ⟨.inr (.inr ⟨hc, hm, rfl⟩), hb⟩
  · refine (anew_bad p f most w hc).mono ?_
    rintro e w1 ⟨rfl, hb⟩
    exact ⟨.inr (.inl ⟨hc, rfl⟩), hb⟩
end Go.Proofs.YtnpgmekgmelamaaGreat
