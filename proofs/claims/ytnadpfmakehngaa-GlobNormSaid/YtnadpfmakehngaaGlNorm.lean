/-
  What is proved: outlawlaw07.GlobNorm returns true for any glob, string and bool: the normal form matches what the glob does, applied twice it is the same as once; what is matched has at least as many bytes as Least says; a literal matches only itself. No conditions.
-/
import Derived.Test.YtnadpfmakehngaaGlLight
import Derived.Test.YtnadpfmakehngaaGlText
import Derived.Test.YtnadpfmakehngaaRows
import Derived.ProofKit
import Derived.OpenShut
import Derived.ShutString
import Derived.Deep.RegionWith
namespace Go.Proofs.Ytnadpfmakehngaa
open Go.RowKit

theorem ne_list {a b : ByteArray} (h : a ≠ b) : (a.toList == b.toList) = false := by
  rw [Lib.toList_data, Lib.toList_data]
  simpa using fun e => h (by rw [← str_of a, ← str_of b, e])

set_option maxHeartbeats 8000000 in
theorem norm_core (p t n s fp ft : ByteArray) (f m is : Bool) (lp : Nat) (w : World) (hl : lightB [p, t] = true)
    (c1 : ∀ w, Calls Try.prog 10 #[.string p] w fun e w' => e = .returned (.string n) ∧ Below w.heap.size w w')
    (c2 : ∀ w, Calls Try.prog 10 #[.string n] w fun e w' => e = .returned (.string n) ∧ Below w.heap.size w w')
    (c3 : ∀ w, Calls Try.prog 13 #[.string p, .string t, .bool f] w fun e w' => e = .returned (.bool m) ∧ Below w.heap.size w w')
    (c4 : ∀ w, Calls Try.prog 13 #[.string n, .string t, .bool f] w fun e w' => e = .returned (.bool m) ∧ Below w.heap.size w w')
    (c5 : ∀ w, Calls Try.prog 11 #[.string n] w fun e w' => e = .returned (.int .i64 lp) ∧ w' = w)
    (c6 : ∀ w, Calls Try.prog 11 #[.string p] w fun e w' => e = .returned (.int .i64 lp) ∧ w' = w)
    (c7 : ∀ w, Calls Try.prog 8 #[.string p] w fun e w' => e = .returned (.tuple #[.string s, .bool is]) ∧ Below w.heap.size w w')
    (c8 : ∀ w, Calls Try.prog 14 #[.string p] w fun e w' => e = .returned (.string fp) ∧ Below w.heap.size w w')
    (c9 : ∀ w, Calls Try.prog 14 #[.string t] w fun e w' => e = .returned (.string ft) ∧ Below w.heap.size w w')
    (hn : n.size ≤ p.size) (hm : m = true → lp ≤ t.size)
    (ways : ((is = false ∧ s = ⟨#[]⟩) ∨ (is = true ∧ p = s ∧ m = true)) ∧ (p = t ∨ (p ≠ t ∧ f = true ∧ fp = ft)) ∨ ((is = false ∧ s = ⟨#[]⟩) ∨ (is = true ∧ p = s ∧ m = false)) ∧ ((p ≠ t ∧ f = false) ∨ (p ≠ t ∧ f = true ∧ fp ≠ ft))) :
    Calls Try.prog 5 #[.string p, .string t, .bool f] w fun e w' => e = .returned (.bool true) ∧ Below w.heap.size w w' := by
  obtain ⟨hp, ht⟩ := light2_sizes hl
  have C0 := Lib.hid (lives_any w)
  have CL : Hid (∀ w1, Below w.heap.size w w1 → Calls Try.prog 15 #[.slice (some ⟨w1.heap.size, 0, none⟩) 2 2] (w1.alloc (Obj.cells #[.string p, .string t] 9)) fun e w' => e = .returned (.bool true) ∧ Below w.heap.size w w') :=
    Lib.hid fun w1 hb => (light2 p t w1).mono fun e w' ⟨he, b⟩ => ⟨by rw [← hl]; exact he, hb.trans (b.mono hb.size)⟩
  have C1 := Lib.hid (onto (w0 := w) c1)
  have C2 := Lib.hid (onto (w0 := w) c2)
  have C3 := Lib.hid (onto (w0 := w) c3)
  have C4 := Lib.hid (onto (w0 := w) c4)
  have C5 := Lib.hid c5
  have C6 := Lib.hid c6
  have C7 := Lib.hid (onto (w0 := w) c7)
  have C8 := Lib.hid (onto (w0 := w) c8)
  have C9 := Lib.hid (onto (w0 := w) c9)
  clear c1 c2 c3 c4 c5 c6 c7 c8 c9 hl
  have g1 : decide ((p.size : Int) < (n.size : Int)) = false := by simp; omega
  have HM : Hid (m = true → lp ≤ t.size) := Lib.hid hm
  clear hm
  rcases ways with ⟨hs, hw⟩ | ⟨hs, hw⟩
  · rcases hw with rfl | ⟨hpt, rfl, rfl⟩
    · rcases hs with ⟨rfl, rfl⟩ | ⟨rfl, rfl, rfl⟩
      · cases m
        · go_enter Try.func5, Try.ntmps5
          go_wp2_with (first
            | (go_at_call 9; refine C0.out.mono ?_; rintro e w' ⟨rfl, b⟩)
            | (go_at_call 15; refine (CL.out _ ?_).mono ?_; assumption; rintro e w' ⟨rfl, b⟩)
            | (go_at_call_of 10 n; refine (C2.out _ ?_).mono ?_; assumption; rintro e w' ⟨rfl, b⟩)
            | (go_at_call_of 10 p; refine (C1.out _ ?_).mono ?_; assumption; rintro e w' ⟨rfl, b⟩)
            | (go_at_call_of 13 n; refine (C4.out _ ?_).mono ?_; assumption; rintro e w' ⟨rfl, b⟩)
            | (go_at_call_of 13 p; refine (C3.out _ ?_).mono ?_; assumption; rintro e w' ⟨rfl, b⟩)
            | (go_at_call_of 11 n; refine (C5.out _).mono ?_; rintro e w' ⟨rfl, rfl⟩)
            | (go_at_call_of 11 p; refine (C6.out _).mono ?_; rintro e w' ⟨rfl, rfl⟩)
            | (go_at_call 8; refine (C7.out _ ?_).mono ?_; assumption; rintro e w' ⟨rfl, b⟩)
            | (go_at_call_of 14 p; refine (C8.out _ ?_).mono ?_; assumption; rintro e w' ⟨rfl, b⟩)
            | (go_at_call_of 14 t; refine (C9.out _ ?_).mono ?_; assumption; rintro e w' ⟨rfl, b⟩))
          go_ret
          exact ⟨rfl, by assumption⟩
        · have g2 := HM.out rfl
          go_enter Try.func5, Try.ntmps5
          go_wp2_with (first
            | (go_at_call 9; refine C0.out.mono ?_; rintro e w' ⟨rfl, b⟩)
            | (go_at_call 15; refine (CL.out _ ?_).mono ?_; assumption; rintro e w' ⟨rfl, b⟩)
            | (go_at_call_of 10 n; refine (C2.out _ ?_).mono ?_; assumption; rintro e w' ⟨rfl, b⟩)
            | (go_at_call_of 10 p; refine (C1.out _ ?_).mono ?_; assumption; rintro e w' ⟨rfl, b⟩)
            | (go_at_call_of 13 n; refine (C4.out _ ?_).mono ?_; assumption; rintro e w' ⟨rfl, b⟩)
            | (go_at_call_of 13 p; refine (C3.out _ ?_).mono ?_; assumption; rintro e w' ⟨rfl, b⟩)
            | (go_at_call_of 11 n; refine (C5.out _).mono ?_; rintro e w' ⟨rfl, rfl⟩)
            | (go_at_call_of 11 p; refine (C6.out _).mono ?_; rintro e w' ⟨rfl, rfl⟩)
            | (go_at_call 8; refine (C7.out _ ?_).mono ?_; assumption; rintro e w' ⟨rfl, b⟩)
            | (go_at_call_of 14 p; refine (C8.out _ ?_).mono ?_; assumption; rintro e w' ⟨rfl, b⟩)
            | (go_at_call_of 14 t; refine (C9.out _ ?_).mono ?_; assumption; rintro e w' ⟨rfl, b⟩))
          go_ret
          exact ⟨rfl, by assumption⟩
      · have g2 := HM.out rfl
        go_enter Try.func5, Try.ntmps5
        go_wp2_with (first
          | (go_at_call 9; refine C0.out.mono ?_; rintro e w' ⟨rfl, b⟩)
          | (go_at_call 15; refine (CL.out _ ?_).mono ?_; assumption; rintro e w' ⟨rfl, b⟩)
          | (go_at_call_of 10 n; refine (C2.out _ ?_).mono ?_; assumption; rintro e w' ⟨rfl, b⟩)
          | (go_at_call_of 10 p; refine (C1.out _ ?_).mono ?_; assumption; rintro e w' ⟨rfl, b⟩)
          | (go_at_call_of 13 n; refine (C4.out _ ?_).mono ?_; assumption; rintro e w' ⟨rfl, b⟩)
          | (go_at_call_of 13 p; refine (C3.out _ ?_).mono ?_; assumption; rintro e w' ⟨rfl, b⟩)
          | (go_at_call_of 11 n; refine (C5.out _).mono ?_; rintro e w' ⟨rfl, rfl⟩)
          | (go_at_call_of 11 p; refine (C6.out _).mono ?_; rintro e w' ⟨rfl, rfl⟩)
          | (go_at_call 8; refine (C7.out _ ?_).mono ?_; assumption; rintro e w' ⟨rfl, b⟩)
          | (go_at_call_of 14 p; refine (C8.out _ ?_).mono ?_; assumption; rintro e w' ⟨rfl, b⟩)
          | (go_at_call_of 14 t; refine (C9.out _ ?_).mono ?_; assumption; rintro e w' ⟨rfl, b⟩))
        go_ret
        exact ⟨rfl, by assumption⟩
    · have ept := ne_list hpt
      clear hpt
      rcases hs with ⟨rfl, rfl⟩ | ⟨rfl, rfl, rfl⟩
      · cases m
        · go_enter Try.func5, Try.ntmps5
          go_wp2_with (first
            | (go_at_call 9; refine C0.out.mono ?_; rintro e w' ⟨rfl, b⟩)
            | (go_at_call 15; refine (CL.out _ ?_).mono ?_; assumption; rintro e w' ⟨rfl, b⟩)
            | (go_at_call_of 10 n; refine (C2.out _ ?_).mono ?_; assumption; rintro e w' ⟨rfl, b⟩)
            | (go_at_call_of 10 p; refine (C1.out _ ?_).mono ?_; assumption; rintro e w' ⟨rfl, b⟩)
            | (go_at_call_of 13 n; refine (C4.out _ ?_).mono ?_; assumption; rintro e w' ⟨rfl, b⟩)
            | (go_at_call_of 13 p; refine (C3.out _ ?_).mono ?_; assumption; rintro e w' ⟨rfl, b⟩)
            | (go_at_call_of 11 n; refine (C5.out _).mono ?_; rintro e w' ⟨rfl, rfl⟩)
            | (go_at_call_of 11 p; refine (C6.out _).mono ?_; rintro e w' ⟨rfl, rfl⟩)
            | (go_at_call 8; refine (C7.out _ ?_).mono ?_; assumption; rintro e w' ⟨rfl, b⟩)
            | (go_at_call_of 14 p; refine (C8.out _ ?_).mono ?_; assumption; rintro e w' ⟨rfl, b⟩)
            | (go_at_call_of 14 t; refine (C9.out _ ?_).mono ?_; assumption; rintro e w' ⟨rfl, b⟩))
          go_ret
          exact ⟨rfl, by assumption⟩
        · have g2 := HM.out rfl
          go_enter Try.func5, Try.ntmps5
          go_wp2_with (first
            | (go_at_call 9; refine C0.out.mono ?_; rintro e w' ⟨rfl, b⟩)
            | (go_at_call 15; refine (CL.out _ ?_).mono ?_; assumption; rintro e w' ⟨rfl, b⟩)
            | (go_at_call_of 10 n; refine (C2.out _ ?_).mono ?_; assumption; rintro e w' ⟨rfl, b⟩)
            | (go_at_call_of 10 p; refine (C1.out _ ?_).mono ?_; assumption; rintro e w' ⟨rfl, b⟩)
            | (go_at_call_of 13 n; refine (C4.out _ ?_).mono ?_; assumption; rintro e w' ⟨rfl, b⟩)
            | (go_at_call_of 13 p; refine (C3.out _ ?_).mono ?_; assumption; rintro e w' ⟨rfl, b⟩)
            | (go_at_call_of 11 n; refine (C5.out _).mono ?_; rintro e w' ⟨rfl, rfl⟩)
            | (go_at_call_of 11 p; refine (C6.out _).mono ?_; rintro e w' ⟨rfl, rfl⟩)
            | (go_at_call 8; refine (C7.out _ ?_).mono ?_; assumption; rintro e w' ⟨rfl, b⟩)
            | (go_at_call_of 14 p; refine (C8.out _ ?_).mono ?_; assumption; rintro e w' ⟨rfl, b⟩)
            | (go_at_call_of 14 t; refine (C9.out _ ?_).mono ?_; assumption; rintro e w' ⟨rfl, b⟩))
          go_ret
          exact ⟨rfl, by assumption⟩
      · have g2 := HM.out rfl
        go_enter Try.func5, Try.ntmps5
        go_wp2_with (first
          | (go_at_call 9; refine C0.out.mono ?_; rintro e w' ⟨rfl, b⟩)
          | (go_at_call 15; refine (CL.out _ ?_).mono ?_; assumption; rintro e w' ⟨rfl, b⟩)
          | (go_at_call_of 10 n; refine (C2.out _ ?_).mono ?_; assumption; rintro e w' ⟨rfl, b⟩)
          | (go_at_call_of 10 p; refine (C1.out _ ?_).mono ?_; assumption; rintro e w' ⟨rfl, b⟩)
          | (go_at_call_of 13 n; refine (C4.out _ ?_).mono ?_; assumption; rintro e w' ⟨rfl, b⟩)
          | (go_at_call_of 13 p; refine (C3.out _ ?_).mono ?_; assumption; rintro e w' ⟨rfl, b⟩)
          | (go_at_call_of 11 n; refine (C5.out _).mono ?_; rintro e w' ⟨rfl, rfl⟩)
          | (go_at_call_of 11 p; refine (C6.out _).mono ?_; rintro e w' ⟨rfl, rfl⟩)
          | (go_at_call 8; refine (C7.out _ ?_).mono ?_; assumption; rintro e w' ⟨rfl, b⟩)
          | (go_at_call_of 14 p; refine (C8.out _ ?_).mono ?_; assumption; rintro e w' ⟨rfl, b⟩)
          | (go_at_call_of 14 t; refine (C9.out _ ?_).mono ?_; assumption; rintro e w' ⟨rfl, b⟩))
        go_ret
        exact ⟨rfl, by assumption⟩
  · rcases hw with ⟨hpt, rfl⟩ | ⟨hpt, rfl, hft⟩
    · have ept := ne_list hpt
      clear hpt
      rcases hs with ⟨rfl, rfl⟩ | ⟨rfl, rfl, rfl⟩
      · cases m
        · go_enter Try.func5, Try.ntmps5
          go_wp2_with (first
            | (go_at_call 9; refine C0.out.mono ?_; rintro e w' ⟨rfl, b⟩)
            | (go_at_call 15; refine (CL.out _ ?_).mono ?_; assumption; rintro e w' ⟨rfl, b⟩)
            | (go_at_call_of 10 n; refine (C2.out _ ?_).mono ?_; assumption; rintro e w' ⟨rfl, b⟩)
            | (go_at_call_of 10 p; refine (C1.out _ ?_).mono ?_; assumption; rintro e w' ⟨rfl, b⟩)
            | (go_at_call_of 13 n; refine (C4.out _ ?_).mono ?_; assumption; rintro e w' ⟨rfl, b⟩)
            | (go_at_call_of 13 p; refine (C3.out _ ?_).mono ?_; assumption; rintro e w' ⟨rfl, b⟩)
            | (go_at_call_of 11 n; refine (C5.out _).mono ?_; rintro e w' ⟨rfl, rfl⟩)
            | (go_at_call_of 11 p; refine (C6.out _).mono ?_; rintro e w' ⟨rfl, rfl⟩)
            | (go_at_call 8; refine (C7.out _ ?_).mono ?_; assumption; rintro e w' ⟨rfl, b⟩)
            | (go_at_call_of 14 p; refine (C8.out _ ?_).mono ?_; assumption; rintro e w' ⟨rfl, b⟩)
            | (go_at_call_of 14 t; refine (C9.out _ ?_).mono ?_; assumption; rintro e w' ⟨rfl, b⟩))
          go_ret
          exact ⟨rfl, by assumption⟩
        · have g2 := HM.out rfl
          go_enter Try.func5, Try.ntmps5
          go_wp2_with (first
            | (go_at_call 9; refine C0.out.mono ?_; rintro e w' ⟨rfl, b⟩)
            | (go_at_call 15; refine (CL.out _ ?_).mono ?_; assumption; rintro e w' ⟨rfl, b⟩)
            | (go_at_call_of 10 n; refine (C2.out _ ?_).mono ?_; assumption; rintro e w' ⟨rfl, b⟩)
            | (go_at_call_of 10 p; refine (C1.out _ ?_).mono ?_; assumption; rintro e w' ⟨rfl, b⟩)
            | (go_at_call_of 13 n; refine (C4.out _ ?_).mono ?_; assumption; rintro e w' ⟨rfl, b⟩)
            | (go_at_call_of 13 p; refine (C3.out _ ?_).mono ?_; assumption; rintro e w' ⟨rfl, b⟩)
            | (go_at_call_of 11 n; refine (C5.out _).mono ?_; rintro e w' ⟨rfl, rfl⟩)
            | (go_at_call_of 11 p; refine (C6.out _).mono ?_; rintro e w' ⟨rfl, rfl⟩)
            | (go_at_call 8; refine (C7.out _ ?_).mono ?_; assumption; rintro e w' ⟨rfl, b⟩)
            | (go_at_call_of 14 p; refine (C8.out _ ?_).mono ?_; assumption; rintro e w' ⟨rfl, b⟩)
            | (go_at_call_of 14 t; refine (C9.out _ ?_).mono ?_; assumption; rintro e w' ⟨rfl, b⟩))
          go_ret
          exact ⟨rfl, by assumption⟩
      · go_enter Try.func5, Try.ntmps5
        go_wp2_with (first
          | (go_at_call 9; refine C0.out.mono ?_; rintro e w' ⟨rfl, b⟩)
          | (go_at_call 15; refine (CL.out _ ?_).mono ?_; assumption; rintro e w' ⟨rfl, b⟩)
          | (go_at_call_of 10 n; refine (C2.out _ ?_).mono ?_; assumption; rintro e w' ⟨rfl, b⟩)
          | (go_at_call_of 10 p; refine (C1.out _ ?_).mono ?_; assumption; rintro e w' ⟨rfl, b⟩)
          | (go_at_call_of 13 n; refine (C4.out _ ?_).mono ?_; assumption; rintro e w' ⟨rfl, b⟩)
          | (go_at_call_of 13 p; refine (C3.out _ ?_).mono ?_; assumption; rintro e w' ⟨rfl, b⟩)
          | (go_at_call_of 11 n; refine (C5.out _).mono ?_; rintro e w' ⟨rfl, rfl⟩)
          | (go_at_call_of 11 p; refine (C6.out _).mono ?_; rintro e w' ⟨rfl, rfl⟩)
          | (go_at_call 8; refine (C7.out _ ?_).mono ?_; assumption; rintro e w' ⟨rfl, b⟩)
          | (go_at_call_of 14 p; refine (C8.out _ ?_).mono ?_; assumption; rintro e w' ⟨rfl, b⟩)
          | (go_at_call_of 14 t; refine (C9.out _ ?_).mono ?_; assumption; rintro e w' ⟨rfl, b⟩))
        go_ret
        exact ⟨rfl, by assumption⟩
    · have ept := ne_list hpt
      have eft := ne_list hft
      clear hpt hft
      rcases hs with ⟨rfl, rfl⟩ | ⟨rfl, rfl, rfl⟩
      · cases m
        · go_enter Try.func5, Try.ntmps5
          go_wp2_with (first
            | (go_at_call 9; refine C0.out.mono ?_; rintro e w' ⟨rfl, b⟩)
            | (go_at_call 15; refine (CL.out _ ?_).mono ?_; assumption; rintro e w' ⟨rfl, b⟩)
            | (go_at_call_of 10 n; refine (C2.out _ ?_).mono ?_; assumption; rintro e w' ⟨rfl, b⟩)
            | (go_at_call_of 10 p; refine (C1.out _ ?_).mono ?_; assumption; rintro e w' ⟨rfl, b⟩)
            | (go_at_call_of 13 n; refine (C4.out _ ?_).mono ?_; assumption; rintro e w' ⟨rfl, b⟩)
            | (go_at_call_of 13 p; refine (C3.out _ ?_).mono ?_; assumption; rintro e w' ⟨rfl, b⟩)
            | (go_at_call_of 11 n; refine (C5.out _).mono ?_; rintro e w' ⟨rfl, rfl⟩)
            | (go_at_call_of 11 p; refine (C6.out _).mono ?_; rintro e w' ⟨rfl, rfl⟩)
            | (go_at_call 8; refine (C7.out _ ?_).mono ?_; assumption; rintro e w' ⟨rfl, b⟩)
            | (go_at_call_of 14 p; refine (C8.out _ ?_).mono ?_; assumption; rintro e w' ⟨rfl, b⟩)
            | (go_at_call_of 14 t; refine (C9.out _ ?_).mono ?_; assumption; rintro e w' ⟨rfl, b⟩))
          go_ret
          exact ⟨rfl, by assumption⟩
        · have g2 := HM.out rfl
          go_enter Try.func5, Try.ntmps5
          go_wp2_with (first
            | (go_at_call 9; refine C0.out.mono ?_; rintro e w' ⟨rfl, b⟩)
            | (go_at_call 15; refine (CL.out _ ?_).mono ?_; assumption; rintro e w' ⟨rfl, b⟩)
            | (go_at_call_of 10 n; refine (C2.out _ ?_).mono ?_; assumption; rintro e w' ⟨rfl, b⟩)
            | (go_at_call_of 10 p; refine (C1.out _ ?_).mono ?_; assumption; rintro e w' ⟨rfl, b⟩)
            | (go_at_call_of 13 n; refine (C4.out _ ?_).mono ?_; assumption; rintro e w' ⟨rfl, b⟩)
            | (go_at_call_of 13 p; refine (C3.out _ ?_).mono ?_; assumption; rintro e w' ⟨rfl, b⟩)
            | (go_at_call_of 11 n; refine (C5.out _).mono ?_; rintro e w' ⟨rfl, rfl⟩)
            | (go_at_call_of 11 p; refine (C6.out _).mono ?_; rintro e w' ⟨rfl, rfl⟩)
            | (go_at_call 8; refine (C7.out _ ?_).mono ?_; assumption; rintro e w' ⟨rfl, b⟩)
            | (go_at_call_of 14 p; refine (C8.out _ ?_).mono ?_; assumption; rintro e w' ⟨rfl, b⟩)
            | (go_at_call_of 14 t; refine (C9.out _ ?_).mono ?_; assumption; rintro e w' ⟨rfl, b⟩))
          go_ret
          exact ⟨rfl, by assumption⟩
      · go_enter Try.func5, Try.ntmps5
        go_wp2_with (first
          | (go_at_call 9; refine C0.out.mono ?_; rintro e w' ⟨rfl, b⟩)
          | (go_at_call 15; refine (CL.out _ ?_).mono ?_; assumption; rintro e w' ⟨rfl, b⟩)
          | (go_at_call_of 10 n; refine (C2.out _ ?_).mono ?_; assumption; rintro e w' ⟨rfl, b⟩)
          | (go_at_call_of 10 p; refine (C1.out _ ?_).mono ?_; assumption; rintro e w' ⟨rfl, b⟩)
          | (go_at_call_of 13 n; refine (C4.out _ ?_).mono ?_; assumption; rintro e w' ⟨rfl, b⟩)
          | (go_at_call_of 13 p; refine (C3.out _ ?_).mono ?_; assumption; rintro e w' ⟨rfl, b⟩)
          | (go_at_call_of 11 n; refine (C5.out _).mono ?_; rintro e w' ⟨rfl, rfl⟩)
          | (go_at_call_of 11 p; refine (C6.out _).mono ?_; rintro e w' ⟨rfl, rfl⟩)
          | (go_at_call 8; refine (C7.out _ ?_).mono ?_; assumption; rintro e w' ⟨rfl, b⟩)
          | (go_at_call_of 14 p; refine (C8.out _ ?_).mono ?_; assumption; rintro e w' ⟨rfl, b⟩)
          | (go_at_call_of 14 t; refine (C9.out _ ?_).mono ?_; assumption; rintro e w' ⟨rfl, b⟩))
        go_ret
        exact ⟨rfl, by assumption⟩

set_option maxHeartbeats 1000000 in
theorem norm_skip (p t : ByteArray) (f : Bool) (w : World) (h : lightB [p, t] = false) :
    Calls Try.prog 5 #[.string p, .string t, .bool f] w fun e w' => e = .returned (.bool true) ∧ Below w.heap.size w w' := by
  have C0 := Lib.hid (lives_any w)
  have CL := Lib.hid (fun w => light2 p t w)
  rw [h] at CL
  clear h
  go_enter Try.func5, Try.ntmps5
  go_wp2_with (go_at_call 9; refine C0.out.mono ?_; rintro e w1 ⟨rfl, b1⟩)
  refine (CL.out _).mono ?_
  rintro e w2 ⟨rfl, b2⟩
  replace b2 := b1.trans (b2.mono b1.size)
  go_wp2
  go_ret
  exact ⟨rfl, b2⟩

/-- The law, for every input. -/
theorem norm_law_any (p t : ByteArray) (f : Bool) (w : World) :
    Calls Try.prog 5 #[.string p, .string t, .bool f] w fun e w' => e = .returned (.bool true) ∧ Below w.heap.size w w' := by
  cases h : lightB [p, t] with
  | false => exact norm_skip p t f w h
  | true =>
    obtain ⟨hp, ht⟩ := light2_sizes h
    have hps := Lib.size_eq p
    have hts := Lib.size_eq t
    have hnl := norm_len p.data.toList false
    have hnn : str (normL false (str (normL false p.data.toList)).data.toList) = str (normL false p.data.toList) := by rw [str_data, norm_twice]
    refine norm_core p t (str (normL false p.data.toList)) (litS p) (str (foldL p.data.toList)) (str (foldL t.data.toList)) f (mt f p.data.toList t.data.toList) (litL p.data.toList) (least p.data.toList) w h
      (fun w => norm_any p w (by omega)) (fun w => ?_) (fun w => match_any p t f w (by omega) (by omega)) (fun w => ?_) (fun w => ?_) (fun w => least_any p w (by omega)) (fun w => literal_any p w (by omega)) (fun w => fold_any p w (by omega)) (fun w => fold_any t w (by omega)) ?_ ?_ ?_
    · have := norm_any (str (normL false p.data.toList)) w (by rw [str_size]; simp at hnl; omega)
      rw [hnn] at this
      exact this
    · have := match_any (str (normL false p.data.toList)) t f w (by rw [str_size]; simp at hnl; omega) (by omega)
      rw [str_data, norm_mt] at this
      exact this
    · have := least_any (str (normL false p.data.toList)) w (by rw [str_size]; simp at hnl; omega)
      rw [str_data, norm_least] at this
      exact this
    · rw [str_size]; simp at hnl; omega
    · intro hm
      have := mt_least f _ _ hm
      omega
    · have eqs : ∀ {a b : ByteArray}, a.data.toList = b.data.toList → a = b := fun {a b} e => by rw [← str_of a, ← str_of b, e]
      cases hl : litL p.data.toList with
      | false =>
        have hS : litS p = ⟨#[]⟩ := by unfold litS; rw [hl]; rfl
        by_cases hpt : p = t
        · exact .inl ⟨.inl ⟨rfl, hS⟩, .inl hpt⟩
        · cases f with
          | false => exact .inr ⟨.inl ⟨rfl, hS⟩, .inl ⟨hpt, rfl⟩⟩
          | true =>
            by_cases hf : str (foldL p.data.toList) = str (foldL t.data.toList)
            · exact .inl ⟨.inl ⟨rfl, hS⟩, .inr ⟨hpt, rfl, hf⟩⟩
            · exact .inr ⟨.inl ⟨rfl, hS⟩, .inr ⟨hpt, rfl, hf⟩⟩
      | true =>
        have hS : litS p = p := by unfold litS; rw [hl]; rfl
        have hm := lit_same f p.data.toList t.data.toList hl
        by_cases hpt : p = t
        · refine .inl ⟨.inr ⟨rfl, hS.symm, ?_⟩, .inl hpt⟩
          rw [hm, hpt]; simp
        · have hne : (p.data.toList == t.data.toList) = false := by simpa using fun e => hpt (eqs e)
          rw [hne, Bool.false_or] at hm
          cases f with
          | false => exact .inr ⟨.inr ⟨rfl, hS.symm, hm⟩, .inl ⟨hpt, rfl⟩⟩
          | true =>
            by_cases hf : str (foldL p.data.toList) = str (foldL t.data.toList)
            · refine .inl ⟨.inr ⟨rfl, hS.symm, ?_⟩, .inr ⟨hpt, rfl, hf⟩⟩
              have := congrArg (fun x => x.data.toList) hf
              simp only [str_data] at this
              rw [hm, this]; simp
            · refine .inr ⟨.inr ⟨rfl, hS.symm, ?_⟩, .inr ⟨hpt, rfl, hf⟩⟩
              rw [hm, Bool.true_and]
              simpa using fun e => hf (by rw [e])

open Go.ChangeShapes Go.WideShapes Go.ChangeAt
open Go.ChangeMaps (open_string shut_string)
theorem norm_law_own : ownKnob Try.prog.godebug = none := by kernel_rfl

set_option maxRecDepth 100000 in
theorem norm_law_lifted (os : Os) (started : os.Started) (H : Type) (enc : TypeId × Value → H) :
    ReturnsInHanded {} Try.checked os 5 .any (Rows.globNormSpec.pre6 enc Try.prog Try.f5 Rows.globNormRow.domain false) (Rows.globNormSpec.post enc Try.prog Try.f5 false true false false) := by
  refine returnsInHanded_of_change (C := Try.checked) norm_law_own started (by kernel_rfl) Try.func5
    (ChangeSpec.witness6 (enc := enc) (C := Try.checked) false ⟨#[], #[.string ByteArray.empty, .string ByteArray.empty, .bool false], []⟩ 8 (by kernel_rfl) (by kernel_rfl) (by kernel_rfl) (by kernel_rfl)) ?_
  intro W base args ds gs before hval0 hW hcnd _
  have hval : ∀ (j : Nat) t v, Try.f5.params[j]? = some t → args[j]? = some v → Value.okWide Try.prog W .any base t v := hval0
  have hW' := hW
  obtain ⟨p, q, hA0, hV, rfl, hfz, hnd⟩ := hW
  have hA : DataW.TrodAll enc Try.prog W 0 (fun _ => true) true Try.f5.params.toList args.toList ds p := hA0
  rw [Try.params5] at hA hval
  obtain ⟨v0, vs0, d0, ds0, p0, q0, hargs, rfl, rfl, h0, r0⟩ := trodAll_cons hA
  obtain ⟨v1, vs1, d1, ds1, p1, q1, rfl, rfl, rfl, h1, r1⟩ := trodAll_cons r0
  obtain ⟨v2, vs2, d2, ds2, p2, q2, rfl, rfl, rfl, h2, r2⟩ := trodAll_cons r1
  obtain ⟨rfl, rfl, rfl⟩ := trodAll_nil r2
  obtain rfl : args = #[v0, v1, v2] := by cases args; simp_all
  obtain ⟨rfl, rfl⟩ := trodVars_none hV
  obtain ⟨a0, rfl, rfl, rfl, w0⟩ := open_string Try.underlying9 (hval 0 9 v0 rfl rfl) h0
  obtain ⟨a1, rfl, rfl, rfl, w1⟩ := open_string Try.underlying9 (hval 1 9 v1 rfl rfl) h1
  obtain ⟨a2, rfl, rfl, rfl⟩ := open_bool Try.underlying4 (hval 2 4 v2 rfl rfl) h2
  clear hA0 hval0
  simp only [List.append_nil] at hW'
  refine (norm_law_any a0 a1 a2 W).mono fun e W' ⟨he, bel⟩ => ?_
  subst he
  exact ⟨_, rfl, _, _, _, [], _, [], hW', trodAll_mk1 (shut_bool Try.underlying4 _), (trodAll_cons_mk (shut_string Try.underlying9 w0) (trodAll_cons_mk (shut_string Try.underlying9 w1) (trodAll_cons_mk (shut_bool Try.underlying4 _) trodAll_mk0))), rfl, bel.frame _, fun h => by cases h⟩

/-- The statement. -/
theorem norm_law_said : Rows.GlobNormSaid :=
  OpenClaim.holds_of_wide 5 Try.f5 rfl rfl rfl rfl rfl rfl rfl ⟨rfl, rfl, rfl, rfl, rfl⟩ rfl rfl rfl rfl rfl (by kernel_rfl) Try.func5 (by kernel_rfl)
    (of_decide_eq_true (by kernel_rfl)) (by unfold Func.isWrapper; first | (rw [if_pos (by decide +kernel)]; kernel_rfl) | (rw [if_neg (by decide +kernel)]; exact ⟨rfl, rfl⟩))
    (fun os started H enc _ => norm_law_lifted os started H enc)
#print axioms norm_law_said
end Go.Proofs.Ytnadpfmakehngaa
