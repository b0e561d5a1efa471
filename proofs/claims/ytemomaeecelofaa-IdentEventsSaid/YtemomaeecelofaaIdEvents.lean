/-
  What is proved: outlawlaw04.IdentEvents returns true for any two strings, a byte and a position: the ID of an event is $ followed by one to 64 allowed bytes. No conditions.
-/
import Derived.Test.YtemomaeecelofaaIdLaw
import Derived.Test.YtemomaeecelofaaRows
import Derived.ProofKit
import Derived.OpenShut
import Derived.ShutString
import Derived.Deep.CutRange
import Derived.Deep.RegionWith
namespace Go.Proofs.Ytemomaeecelofaa
open Go.RowKit

/-- A call's contract, told from an earlier world on. -/
theorem ev_onto {f : Nat} {args : Array Value} {v : Ending} {w0 : World} (h : ∀ w, Calls Try.prog f args w fun e w' => e = v ∧ Below w.heap.size w w') :
    ∀ w1, Below w0.heap.size w0 w1 → Calls Try.prog f args w1 fun e w' => e = v ∧ Below w0.heap.size w0 w' := fun w1 hb => (h w1).mono fun _ _ ⟨he, b⟩ => ⟨he, hb.trans (b.mono hb.size)⟩

/-- The ways of a byte that the tests part. -/
theorem ev_ways (c : UInt8) :
    (evC c = true ∧ ((97 ≤ c.toNat ∧ c.toNat ≤ 122) ∨ (65 ≤ c.toNat ∧ c.toNat ≤ 90) ∨ (48 ≤ c.toNat ∧ c.toNat ≤ 57) ∨ c.toNat = 95 ∨ c.toNat = 45 ∨ c.toNat = 46 ∨ c.toNat = 126 ∨ c.toNat = 47)) ∨
    (evC c = false ∧ (c.toNat < 45 ∨ (57 < c.toNat ∧ c.toNat < 65) ∨ (90 < c.toNat ∧ c.toNat < 95) ∨ c.toNat = 96 ∨ (122 < c.toNat ∧ c.toNat ≠ 126))) := by
  have := all_bytes (p := fun c => decide ((evC c = true ∧ ((97 ≤ c.toNat ∧ c.toNat ≤ 122) ∨ (65 ≤ c.toNat ∧ c.toNat ≤ 90) ∨ (48 ≤ c.toNat ∧ c.toNat ≤ 57) ∨ c.toNat = 95 ∨ c.toNat = 45 ∨ c.toNat = 46 ∨ c.toNat = 126 ∨ c.toNat = 47)) ∨
    (evC c = false ∧ (c.toNat < 45 ∨ (57 < c.toNat ∧ c.toNat < 65) ∨ (90 < c.toNat ∧ c.toNat < 95) ∨ c.toNat = 96 ∨ (122 < c.toNat ∧ c.toNat ≠ 126))))) (by decide +kernel) c
  simpa using this

/-- An ID of these bytes. -/
def evt (a : ByteArray) : ByteArray := ⟨#[36]⟩ ++ a
def evt2 (a b : ByteArray) : ByteArray := ⟨#[36]⟩ ++ a ++ b
def evt3 (a : ByteArray) (k : Nat) (c : UInt8) : ByteArray := ⟨#[36]⟩ ++ a.extract 0 k ++ ⟨#[c]⟩ ++ a.extract (k + 1) a.size

set_option maxHeartbeats 4000000 in
theorem events_no (a b : ByteArray) (c : UInt8) (x : Int) (y z : Bool) (w : World) (ha : a.size ≤ 200) (hb : b.size ≤ 200)
    (c1 : ∀ w, Calls Try.prog 19 #[.string (evt a)] w fun e w' => e = .returned (.bool false) ∧ Below w.heap.size w w')
    (c2 : ∀ w, Calls Try.prog 19 #[.string (evt b)] w fun e w' => e = .returned (.bool y) ∧ Below w.heap.size w w')
    (c3 : ∀ w, Calls Try.prog 19 #[.string (evt2 a b)] w fun e w' => e = .returned (.bool z) ∧ Below w.heap.size w w')
    (hz : z = true → a.size = 0) :
    Calls Try.prog 7 #[.string a, .string b, .int .u8 (c.toNat : Int), .int .i64 x] w fun e w' => e = .returned (.bool true) ∧ Below w.heap.size w w' := by
  have C0 := Lib.hid (lives_any w)
  have C1 := Lib.hid (ev_onto (w0 := w) c1)
  have C2 := Lib.hid (ev_onto (w0 := w) c2)
  have C3 := Lib.hid (ev_onto (w0 := w) c3)
  clear c1 c2 c3
  have g1 : decide ((200 : Int) < (a.size : Int)) = false := by simp; omega
  have g2 : decide ((200 : Int) < (b.size : Int)) = false := by simp; omega
  have hways := empty_ways a
  have HZ := Lib.hid hz
  clear hz
  cases hzz : z with
  | false =>
    rw [hzz] at C3
    clear hzz hways HZ
    go_enter Try.func7, Try.ntmps7
    go_wp2_with (go_at_call 8; refine C0.out.mono ?_; rintro e w1 ⟨rfl, b1⟩)
    refine (C1.out w1 b1).mono ?_
    rintro e w2 ⟨rfl, b2⟩
    go_wp2_with fail
    refine (C2.out w2 b2).mono ?_
    rintro e w3 ⟨rfl, b3⟩
    go_wp2_with fail
    refine (C3.out w3 b3).mono ?_
    rintro e w4 ⟨rfl, b4⟩
    go_wp2
    go_ret
    exact ⟨rfl, b4⟩
  | true =>
    have h0 := HZ.out hzz
    rw [hzz] at C3
    rcases hways with ⟨_, z2, z3, _⟩ | ⟨z1, _⟩
    · clear hzz HZ h0
      go_enter Try.func7, Try.ntmps7
      go_wp2_with (go_at_call 8; refine C0.out.mono ?_; rintro e w1 ⟨rfl, b1⟩)
      refine (C1.out w1 b1).mono ?_
      rintro e w2 ⟨rfl, b2⟩
      go_wp2_with fail
      refine (C2.out w2 b2).mono ?_
      rintro e w3 ⟨rfl, b3⟩
      go_wp2_with fail
      refine (C3.out w3 b3).mono ?_
      rintro e w4 ⟨rfl, b4⟩
      go_wp2
      go_ret
      exact ⟨rfl, b4⟩
    · omega

set_option maxHeartbeats 4000000 in
theorem events_yes (a b : ByteArray) (c : UInt8) (x : Int) (y : Bool) (w : World) (ha : a.size ≤ 200) (hb : b.size ≤ 200) (h0 : 0 < a.size)
    (c1 : ∀ w, Calls Try.prog 19 #[.string (evt a)] w fun e w' => e = .returned (.bool true) ∧ Below w.heap.size w w')
    (c2 : ∀ w, Calls Try.prog 19 #[.string (evt b)] w fun e w' => e = .returned (.bool y) ∧ Below w.heap.size w w')
    (c3 : y = true → ∀ w, Calls Try.prog 19 #[.string (evt2 a b)] w fun e w' => e = .returned (.bool (decide (a.size + b.size ≤ 64))) ∧ Below w.heap.size w w')
    (c4 : ∀ k, k < a.size → ∀ w, Calls Try.prog 19 #[.string (evt3 a k c)] w fun e w' => e = .returned (.bool (evC c)) ∧ Below w.heap.size w w') :
    Calls Try.prog 7 #[.string a, .string b, .int .u8 (c.toNat : Int), .int .i64 x] w fun e w' => e = .returned (.bool true) ∧ Below w.heap.size w w' := by
  obtain ⟨m, HM⟩ : ∃ m, Hid (evC c = m) := ⟨_, Lib.hid rfl⟩
  rw [HM.out] at c4
  have C0 := Lib.hid (lives_any w)
  have C1 := Lib.hid (ev_onto (w0 := w) c1)
  have C2 := Lib.hid (ev_onto (w0 := w) c2)
  have C3 := Lib.hid (fun h => ev_onto (w0 := w) (c3 h))
  have C4 := Lib.hid (fun k hk => ev_onto (w0 := w) (c4 k hk))
  have CP := Lib.hid (fun w => pick_any x a.size w h0 (by omega))
  clear c1 c2 c3 c4
  have g1 : decide ((200 : Int) < (a.size : Int)) = false := by simp; omega
  have g2 : decide ((200 : Int) < (b.size : Int)) = false := by simp; omega
  have hconv : ∀ (W : World) (g : Nat), W.cell? ⟨g, 0, none⟩ = some (.int .u8 (c.toNat : Int)) → (convert 31 9 (.slice (some ⟨g, 0, none⟩) 1 1)).run Try.prog W = .ok (.string ⟨#[c]⟩) W := by
    intro W g hW
    have := run_convert_bytes_back (P := Try.prog) W 31 9 5 ⟨g, 0, none⟩ 1 [c] Try.underlying31 Try.underlying5 Try.underlying9 (fun j hj => by
      obtain rfl : j = 0 := by simpa using hj
      exact hW)
    exact this
  cases hy : y with
  | false =>
    rw [hy] at C2
    clear C3 hy
    go_enter Try.func7, Try.ntmps7
    go_wp2_with (go_at_call 8; refine C0.out.mono ?_; rintro e w1 ⟨rfl, b1⟩)
    refine (C1.out w1 b1).mono ?_
    rintro e w2 ⟨rfl, b2⟩
    go_wp2_with fail
    refine (C2.out w2 b2).mono ?_
    rintro e w3 ⟨rfl, b3⟩
    clear b1 b2 C0 C1 C2
    go_upto_region 10 with fail
    go_cut [11] from 59 to 100 (fun s11 wx => s11 = .bool m ∧ Below w.heap.size w wx)
    case first =>
      clear CP C4 hconv
      have hways := ev_ways c
      obtain ⟨n, hn⟩ : ∃ n : Nat, n = c.toNat := ⟨_, rfl⟩
      rw [← hn] at hways
      have hcu : n < 256 := by rw [hn]; exact c.toNat_lt
      rcases hways with ⟨hp, hways⟩ | ⟨hp, hways⟩
      · have HP := Lib.hid hp
        clear hp
        rcases hways with h | h | h | h | h | h | h | h
        all_goals
          have d1 : decide ((97 : Int) ≤ (n : Int)) = decide (97 ≤ n) := by simp only [decide_eq_decide]; omega
          have d2 : decide ((n : Int) ≤ 122) = decide (n ≤ 122) := by simp only [decide_eq_decide]; omega
          have d3 : decide ((65 : Int) ≤ (n : Int)) = decide (65 ≤ n) := by simp only [decide_eq_decide]; omega
          have d4 : decide ((n : Int) ≤ 90) = decide (n ≤ 90) := by simp only [decide_eq_decide]; omega
          have d5 : decide ((48 : Int) ≤ (n : Int)) = decide (48 ≤ n) := by simp only [decide_eq_decide]; omega
          have d6 : decide ((n : Int) ≤ 57) = decide (n ≤ 57) := by simp only [decide_eq_decide]; omega
          first | rw [decide_eq_true (by omega : 97 ≤ n)] at d1 | rw [decide_eq_false (by omega : ¬ 97 ≤ n)] at d1
          first | rw [decide_eq_true (by omega : n ≤ 122)] at d2 | rw [decide_eq_false (by omega : ¬ n ≤ 122)] at d2
          first | rw [decide_eq_true (by omega : 65 ≤ n)] at d3 | rw [decide_eq_false (by omega : ¬ 65 ≤ n)] at d3
          first | rw [decide_eq_true (by omega : n ≤ 90)] at d4 | rw [decide_eq_false (by omega : ¬ n ≤ 90)] at d4
          first | rw [decide_eq_true (by omega : 48 ≤ n)] at d5 | rw [decide_eq_false (by omega : ¬ 48 ≤ n)] at d5
          first | rw [decide_eq_true (by omega : n ≤ 57)] at d6 | rw [decide_eq_false (by omega : ¬ n ≤ 57)] at d6
          have e1 : ((n : Int) == 95) = decide (n = 95) := by rw [Bool.eq_iff_iff]; simp; omega
          have e2 : ((n : Int) == 45) = decide (n = 45) := by rw [Bool.eq_iff_iff]; simp; omega
          have e3 : ((n : Int) == 46) = decide (n = 46) := by rw [Bool.eq_iff_iff]; simp; omega
          have e4 : ((n : Int) == 126) = decide (n = 126) := by rw [Bool.eq_iff_iff]; simp; omega
          have e5 : ((n : Int) == 47) = decide (n = 47) := by rw [Bool.eq_iff_iff]; simp; omega
          first | rw [decide_eq_true (by omega : n = 95)] at e1 | rw [decide_eq_false (by omega : ¬ n = 95)] at e1
          first | rw [decide_eq_true (by omega : n = 45)] at e2 | rw [decide_eq_false (by omega : ¬ n = 45)] at e2
          first | rw [decide_eq_true (by omega : n = 46)] at e3 | rw [decide_eq_false (by omega : ¬ n = 46)] at e3
          first | rw [decide_eq_true (by omega : n = 126)] at e4 | rw [decide_eq_false (by omega : ¬ n = 126)] at e4
          first | rw [decide_eq_true (by omega : n = 47)] at e5 | rw [decide_eq_false (by omega : ¬ n = 47)] at e5
          rw [hn] at d1 d2 d3 d4 d5 d6 e1 e2 e3 e4 e5
          clear h hn
          go_wp2_with fail
          go_meet
          exact ⟨by rw [← HM.out, HP.out], b3⟩
      · have HP := Lib.hid hp
        clear hp
        rcases hways with h | h | h | h | h
        all_goals
          have d1 : decide ((97 : Int) ≤ (n : Int)) = decide (97 ≤ n) := by simp only [decide_eq_decide]; omega
          have d2 : decide ((n : Int) ≤ 122) = decide (n ≤ 122) := by simp only [decide_eq_decide]; omega
          have d3 : decide ((65 : Int) ≤ (n : Int)) = decide (65 ≤ n) := by simp only [decide_eq_decide]; omega
          have d4 : decide ((n : Int) ≤ 90) = decide (n ≤ 90) := by simp only [decide_eq_decide]; omega
          have d5 : decide ((48 : Int) ≤ (n : Int)) = decide (48 ≤ n) := by simp only [decide_eq_decide]; omega
          have d6 : decide ((n : Int) ≤ 57) = decide (n ≤ 57) := by simp only [decide_eq_decide]; omega
          first | rw [decide_eq_true (by omega : 97 ≤ n)] at d1 | rw [decide_eq_false (by omega : ¬ 97 ≤ n)] at d1
          first | rw [decide_eq_true (by omega : n ≤ 122)] at d2 | rw [decide_eq_false (by omega : ¬ n ≤ 122)] at d2
          first | rw [decide_eq_true (by omega : 65 ≤ n)] at d3 | rw [decide_eq_false (by omega : ¬ 65 ≤ n)] at d3
          first | rw [decide_eq_true (by omega : n ≤ 90)] at d4 | rw [decide_eq_false (by omega : ¬ n ≤ 90)] at d4
          first | rw [decide_eq_true (by omega : 48 ≤ n)] at d5 | rw [decide_eq_false (by omega : ¬ 48 ≤ n)] at d5
          first | rw [decide_eq_true (by omega : n ≤ 57)] at d6 | rw [decide_eq_false (by omega : ¬ n ≤ 57)] at d6
          have e1 : ((n : Int) == 95) = decide (n = 95) := by rw [Bool.eq_iff_iff]; simp; omega
          have e2 : ((n : Int) == 45) = decide (n = 45) := by rw [Bool.eq_iff_iff]; simp; omega
          have e3 : ((n : Int) == 46) = decide (n = 46) := by rw [Bool.eq_iff_iff]; simp; omega
          have e4 : ((n : Int) == 126) = decide (n = 126) := by rw [Bool.eq_iff_iff]; simp; omega
          have e5 : ((n : Int) == 47) = decide (n = 47) := by rw [Bool.eq_iff_iff]; simp; omega
          first | rw [decide_eq_true (by omega : n = 95)] at e1 | rw [decide_eq_false (by omega : ¬ n = 95)] at e1
          first | rw [decide_eq_true (by omega : n = 45)] at e2 | rw [decide_eq_false (by omega : ¬ n = 45)] at e2
          first | rw [decide_eq_true (by omega : n = 46)] at e3 | rw [decide_eq_false (by omega : ¬ n = 46)] at e3
          first | rw [decide_eq_true (by omega : n = 126)] at e4 | rw [decide_eq_false (by omega : ¬ n = 126)] at e4
          first | rw [decide_eq_true (by omega : n = 47)] at e5 | rw [decide_eq_false (by omega : ¬ n = 47)] at e5
          rw [hn] at d1 d2 d3 d4 d5 d6 e1 e2 e3 e4 e5
          clear h hn
          go_wp2_with fail
          go_meet
          exact ⟨by rw [← HM.out, HP.out], b3⟩
    case rest =>
      obtain ⟨rfl, b4⟩ := hcut
      clear b3
      go_wp2_with fail
      refine (CP.out _).mono ?_
      rintro e w5 ⟨k, hk, rfl, rfl⟩
      have k1 : (0 : Int) ≤ (k : Int) := by omega
      have k2 : (k : Int) ≤ (a.size : Int) := by omega
      have k3 : (0 : Int) ≤ (k : Int) + 1 := by omega
      have k4 : (k : Int) + 1 ≤ (a.size : Int) := by omega
      have k5 : IntKind.i64.wrap ((k : Int) + 1) = (k : Int) + 1 := by rw [IntKind.wrap_i64]; omega
      have f1 : ¬ 9223372036854775807 < 1 + min k a.size := by omega
      have f2 : ¬ 9223372036854775807 < 1 + min k a.size + 1 := by omega
      have f3 : ¬ 9223372036854775807 < 1 + min k a.size + 1 + (a.size - (k + 1)) := by omega
      have C4K := Lib.hid (C4.out k hk)
      clear C4 CP
      go_wp2_with fail
      clear HM
      cases m with
      | false =>
          go_region_with (go_at_call 19; refine (C4K.out _ ?_).mono ?_; exact (b4.alloc b4.size _).drew; rintro e w6 ⟨rfl, b6⟩)
          all_goals go_wp2
          all_goals go_ret
          all_goals exact ⟨rfl, by assumption⟩
      | true =>
          go_region_with (go_at_call 19; refine (C4K.out _ ?_).mono ?_; exact (b4.alloc b4.size _).drew; rintro e w6 ⟨rfl, b6⟩)
          all_goals go_wp2
          all_goals go_ret
          all_goals exact ⟨rfl, by assumption⟩
  | true =>
    replace C3 := Lib.hid (C3.out hy)
    rw [hy] at C2
    have g3 : decide ((a.size : Int) + (b.size : Int) ≤ 64) = decide (a.size + b.size ≤ 64) := by simp only [decide_eq_decide]; omega
    obtain ⟨q, hq⟩ : ∃ q, q = decide (a.size + b.size ≤ 64) := ⟨_, rfl⟩
    rw [← hq] at g3 C3
    clear hy hq
    go_enter Try.func7, Try.ntmps7
    go_wp2_with (go_at_call 8; refine C0.out.mono ?_; rintro e w1 ⟨rfl, b1⟩)
    refine (C1.out w1 b1).mono ?_
    rintro e w2 ⟨rfl, b2⟩
    go_wp2_with fail
    refine (C2.out w2 b2).mono ?_
    rintro e w3 ⟨rfl, b3⟩
    go_wp2_with fail
    refine (C3.out w3 b3).mono ?_
    rintro e w4 ⟨rfl, b4⟩
    replace b3 := b4
    clear b1 b2 b4 C0 C1 C2 C3
    go_upto_region 10 with fail
    go_cut [11] from 59 to 100 (fun s11 wx => s11 = .bool m ∧ Below w.heap.size w wx)
    case first =>
      clear CP C4 hconv
      have hways := ev_ways c
      obtain ⟨n, hn⟩ : ∃ n : Nat, n = c.toNat := ⟨_, rfl⟩
      rw [← hn] at hways
      have hcu : n < 256 := by rw [hn]; exact c.toNat_lt
      rcases hways with ⟨hp, hways⟩ | ⟨hp, hways⟩
      · have HP := Lib.hid hp
        clear hp
        rcases hways with h | h | h | h | h | h | h | h
        all_goals
          have d1 : decide ((97 : Int) ≤ (n : Int)) = decide (97 ≤ n) := by simp only [decide_eq_decide]; omega
          have d2 : decide ((n : Int) ≤ 122) = decide (n ≤ 122) := by simp only [decide_eq_decide]; omega
          have d3 : decide ((65 : Int) ≤ (n : Int)) = decide (65 ≤ n) := by simp only [decide_eq_decide]; omega
          have d4 : decide ((n : Int) ≤ 90) = decide (n ≤ 90) := by simp only [decide_eq_decide]; omega
          have d5 : decide ((48 : Int) ≤ (n : Int)) = decide (48 ≤ n) := by simp only [decide_eq_decide]; omega
          have d6 : decide ((n : Int) ≤ 57) = decide (n ≤ 57) := by simp only [decide_eq_decide]; omega
          first | rw [decide_eq_true (by omega : 97 ≤ n)] at d1 | rw [decide_eq_false (by omega : ¬ 97 ≤ n)] at d1
          first | rw [decide_eq_true (by omega : n ≤ 122)] at d2 | rw [decide_eq_false (by omega : ¬ n ≤ 122)] at d2
          first | rw [decide_eq_true (by omega : 65 ≤ n)] at d3 | rw [decide_eq_false (by omega : ¬ 65 ≤ n)] at d3
          first | rw [decide_eq_true (by omega : n ≤ 90)] at d4 | rw [decide_eq_false (by omega : ¬ n ≤ 90)] at d4
          first | rw [decide_eq_true (by omega : 48 ≤ n)] at d5 | rw [decide_eq_false (by omega : ¬ 48 ≤ n)] at d5
          first | rw [decide_eq_true (by omega : n ≤ 57)] at d6 | rw [decide_eq_false (by omega : ¬ n ≤ 57)] at d6
          have e1 : ((n : Int) == 95) = decide (n = 95) := by rw [Bool.eq_iff_iff]; simp; omega
          have e2 : ((n : Int) == 45) = decide (n = 45) := by rw [Bool.eq_iff_iff]; simp; omega
          have e3 : ((n : Int) == 46) = decide (n = 46) := by rw [Bool.eq_iff_iff]; simp; omega
          have e4 : ((n : Int) == 126) = decide (n = 126) := by rw [Bool.eq_iff_iff]; simp; omega
          have e5 : ((n : Int) == 47) = decide (n = 47) := by rw [Bool.eq_iff_iff]; simp; omega
          first | rw [decide_eq_true (by omega : n = 95)] at e1 | rw [decide_eq_false (by omega : ¬ n = 95)] at e1
          first | rw [decide_eq_true (by omega : n = 45)] at e2 | rw [decide_eq_false (by omega : ¬ n = 45)] at e2
          first | rw [decide_eq_true (by omega : n = 46)] at e3 | rw [decide_eq_false (by omega : ¬ n = 46)] at e3
          first | rw [decide_eq_true (by omega : n = 126)] at e4 | rw [decide_eq_false (by omega : ¬ n = 126)] at e4
          first | rw [decide_eq_true (by omega : n = 47)] at e5 | rw [decide_eq_false (by omega : ¬ n = 47)] at e5
          rw [hn] at d1 d2 d3 d4 d5 d6 e1 e2 e3 e4 e5
          clear h hn
          go_wp2_with fail
          go_meet
          exact ⟨by rw [← HM.out, HP.out], b3⟩
      · have HP := Lib.hid hp
        clear hp
        rcases hways with h | h | h | h | h
        all_goals
          have d1 : decide ((97 : Int) ≤ (n : Int)) = decide (97 ≤ n) := by simp only [decide_eq_decide]; omega
          have d2 : decide ((n : Int) ≤ 122) = decide (n ≤ 122) := by simp only [decide_eq_decide]; omega
          have d3 : decide ((65 : Int) ≤ (n : Int)) = decide (65 ≤ n) := by simp only [decide_eq_decide]; omega
          have d4 : decide ((n : Int) ≤ 90) = decide (n ≤ 90) := by simp only [decide_eq_decide]; omega
          have d5 : decide ((48 : Int) ≤ (n : Int)) = decide (48 ≤ n) := by simp only [decide_eq_decide]; omega
          have d6 : decide ((n : Int) ≤ 57) = decide (n ≤ 57) := by simp only [decide_eq_decide]; omega
          first | rw [decide_eq_true (by omega : 97 ≤ n)] at d1 | rw [decide_eq_false (by omega : ¬ 97 ≤ n)] at d1
          first | rw [decide_eq_true (by omega : n ≤ 122)] at d2 | rw [decide_eq_false (by omega : ¬ n ≤ 122)] at d2
          first | rw [decide_eq_true (by omega : 65 ≤ n)] at d3 | rw [decide_eq_false (by omega : ¬ 65 ≤ n)] at d3
          first | rw [decide_eq_true (by omega : n ≤ 90)] at d4 | rw [decide_eq_false (by omega : ¬ n ≤ 90)] at d4
          first | rw [decide_eq_true (by omega : 48 ≤ n)] at d5 | rw [decide_eq_false (by omega : ¬ 48 ≤ n)] at d5
          first | rw [decide_eq_true (by omega : n ≤ 57)] at d6 | rw [decide_eq_false (by omega : ¬ n ≤ 57)] at d6
          have e1 : ((n : Int) == 95) = decide (n = 95) := by rw [Bool.eq_iff_iff]; simp; omega
          have e2 : ((n : Int) == 45) = decide (n = 45) := by rw [Bool.eq_iff_iff]; simp; omega
          have e3 : ((n : Int) == 46) = decide (n = 46) := by rw [Bool.eq_iff_iff]; simp; omega
          have e4 : ((n : Int) == 126) = decide (n = 126) := by rw [Bool.eq_iff_iff]; simp; omega
          have e5 : ((n : Int) == 47) = decide (n = 47) := by rw [Bool.eq_iff_iff]; simp; omega
          first | rw [decide_eq_true (by omega : n = 95)] at e1 | rw [decide_eq_false (by omega : ¬ n = 95)] at e1
          first | rw [decide_eq_true (by omega : n = 45)] at e2 | rw [decide_eq_false (by omega : ¬ n = 45)] at e2
          first | rw [decide_eq_true (by omega : n = 46)] at e3 | rw [decide_eq_false (by omega : ¬ n = 46)] at e3
          first | rw [decide_eq_true (by omega : n = 126)] at e4 | rw [decide_eq_false (by omega : ¬ n = 126)] at e4
          first | rw [decide_eq_true (by omega : n = 47)] at e5 | rw [decide_eq_false (by omega : ¬ n = 47)] at e5
          rw [hn] at d1 d2 d3 d4 d5 d6 e1 e2 e3 e4 e5
          clear h hn
          go_wp2_with fail
          go_meet
          exact ⟨by rw [← HM.out, HP.out], b3⟩
    case rest =>
      obtain ⟨rfl, b4⟩ := hcut
      clear b3
      go_wp2_with fail
      refine (CP.out _).mono ?_
      rintro e w5 ⟨k, hk, rfl, rfl⟩
      have k1 : (0 : Int) ≤ (k : Int) := by omega
      have k2 : (k : Int) ≤ (a.size : Int) := by omega
      have k3 : (0 : Int) ≤ (k : Int) + 1 := by omega
      have k4 : (k : Int) + 1 ≤ (a.size : Int) := by omega
      have k5 : IntKind.i64.wrap ((k : Int) + 1) = (k : Int) + 1 := by rw [IntKind.wrap_i64]; omega
      have f1 : ¬ 9223372036854775807 < 1 + min k a.size := by omega
      have f2 : ¬ 9223372036854775807 < 1 + min k a.size + 1 := by omega
      have f3 : ¬ 9223372036854775807 < 1 + min k a.size + 1 + (a.size - (k + 1)) := by omega
      have C4K := Lib.hid (C4.out k hk)
      clear C4 CP
      go_wp2_with fail
      clear HM
      cases m with
      | false =>
          go_region_with (go_at_call 19; refine (C4K.out _ ?_).mono ?_; exact (b4.alloc b4.size _).drew; rintro e w6 ⟨rfl, b6⟩)
          all_goals go_wp2
          all_goals go_ret
          all_goals exact ⟨rfl, by assumption⟩
      | true =>
          go_region_with (go_at_call 19; refine (C4K.out _ ?_).mono ?_; exact (b4.alloc b4.size _).drew; rintro e w6 ⟨rfl, b6⟩)
          all_goals go_wp2
          all_goals go_ret
          all_goals exact ⟨rfl, by assumption⟩
end Go.Proofs.Ytemomaeecelofaa
