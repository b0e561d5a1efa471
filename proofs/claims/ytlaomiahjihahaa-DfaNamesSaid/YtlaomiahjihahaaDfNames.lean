/-
  What is proved: outlawlaw09.DfaNames returns true: the examples of the chapter have the results that it states. No conditions.
-/
import Derived.Test.YtlaomiahjihahaaDfLives
import Derived.Test.YtlaomiahjihahaaDfAuto
import Derived.Test.YtlaomiahjihahaaRows
import Derived.ProofKit
import Derived.OpenShut
import Derived.ShutString
import Derived.Carry
namespace Go.Proofs.Ytlaomiahjihahaa
open Go.RowKit Go.Shelf Go.Maps

theorem on1 {n : Nat} {w1 w2 w3 : World} (h : Below n w1 w2) (k : Below w2.heap.size w2 w3) (hn : n ≤ w1.heap.size) : Below n w1 w3 := h.trans (k.mono (Nat.le_trans hn h.size))
def pst : ByteArray := ⟨#[42]⟩
def paa : ByteArray := ⟨#[97]⟩

/-- The table of the star. -/
def StarPost (w : World) (e : Ending) (w1 : World) : Prop :=
  ∃ a1 c1 b2 o2 c2 b3 o3 c3 r rc, e = .returned (.tuple #[.agg #[.slice a1 256 c1, .slice (some ⟨b2, o2, none⟩) 1 c2, .slice (some ⟨b3, o3, none⟩) 1 c3], .bool true]) ∧
    Hid (∀ W, Below w1.heap.size w1 W → W.cell? ⟨b2, o2, none⟩ = some (.slice r 1 rc) ∧ W.cell? ⟨b3, o3, none⟩ = some (.bool true)) ∧
    Hid (∀ W, Below w1.heap.size w1 W → Calls Try.prog 10 #[.agg #[.slice a1 256 c1, .slice (some ⟨b2, o2, none⟩) 1 c2, .slice (some ⟨b3, o3, none⟩) 1 c3]] W fun e w' => e = .returned (.int .i64 0) ∧ Below W.heap.size W w') ∧
    Below w.heap.size w w1

set_option maxRecDepth 100000 in
theorem star_any (w : World) : Calls Try.prog 7 #[.string { data := #[42] }, .bool false, .int .i64 1] w (StarPost w) := by
  have hF : Fits [42] (sampL [42]) := samp_fits _
  have hC : Closed [42] (sampL [42]) 1 := by unfold Closed; decide +kernel
  have HM := built_may (f := false) hF hC (by decide)
  have HL := built_light (f := false) hC (by decide) (samp_len _ (by decide))
  have := make_any pst false 1 w (by decide) (sortsN_small (by decide +kernel)) (by decide) (by decide)
  rw [show normP pst = [42] by decide +kernel] at this
  refine Calls.mono this ?_
  rintro e w1 ⟨h | ⟨h, _⟩, hb⟩
  · obtain ⟨n, hn, _, cv, nv, av, rfl, hd⟩ := h
    have e4 := Closed.unique hn hC
    subst e4
    obtain ⟨a1, c1, h1, _⟩ := hd.cls.reads
    obtain ⟨a2, c2, h2, hr⟩ := hd.rows
    obtain ⟨a3, c3, h3, ha⟩ := hd.accs
    rw [clsI_len] at h1
    have l2 : (tabRows (cntL false [42]) (sampL (cntL false [42])) 1).length = 1 := tabRows_len hn
    have l3 : (tabAccs (cntL false [42]) (sampL (cntL false [42])) 1).length = 1 := tabAccs_len hn
    obtain ⟨b2, o2, x, rfl, hb2, hx, hix⟩ := hr 0 (by omega)
    obtain ⟨b3, o3, rfl, hb3, hy⟩ := ha 0 (by omega)
    obtain ⟨r, rc, rfl, _⟩ := hix.reads
    rw [show ((tabRows (cntL false [42]) (sampL (cntL false [42])) 1).getD 0 []).length = 1 by decide +kernel] at hx
    rw [show (tabAccs (cntL false [42]) (sampL (cntL false [42])) 1).getD 0 false = true by decide +kernel] at hy
    rw [l2] at h2
    rw [l3] at h3
    subst h1 h2 h3
    rw [Nat.add_zero] at hx hy
    refine ⟨a1, c1, b2, o2, c2, b3, o3, c3, r, rc, rfl, Lib.hid (fun W hW => ⟨(hW.cell (p := ⟨b2, o2, none⟩) hb2).trans hx, (hW.cell (p := ⟨b3, o3, none⟩) hb3).trans hy⟩), Lib.hid (fun W hW => check_ok (hd.below hW) HL HM), hb⟩
  · exact absurd hC (h 1 (by decide))

set_option maxRecDepth 100000 in
set_option maxHeartbeats 4000000 in
theorem names_any (w : World) :
    Calls Try.prog 3 #[] w fun e w' => e = .returned (.bool true) ∧ Below w.heap.size w w' := by
  have C1 := Lib.hid (star_any w)
  have C2 : Hid (∀ W, Calls Try.prog 7 #[.string { data := #[97, 98] }, .bool false, .int .i64 3] W fun e w' => e = .returned (.tuple #[.agg #[.slice none 0 0, .slice none 0 0, .slice none 0 0], .bool false]) ∧ Below W.heap.size W w') := Lib.hid (fun W => by
    have hC4 : Closed [97, 98] (sampL [97, 98]) 4 := by unfold Closed; decide +kernel
    have := make_any pab false 3 W (by decide) (sortsN_small (by decide +kernel)) (by decide) (by decide)
    rw [show normP pab = [97, 98] by decide +kernel] at this
    refine Calls.mono this ?_
    rintro e w1 ⟨⟨n, hn, hle, _⟩ | ⟨_, rfl⟩, hb⟩
    · have := Closed.unique hn hC4
      omega
    · exact ⟨rfl, hb⟩)
  have C3 : Hid (∀ W, Calls Try.prog 8 #[.string { data := #[97, 98] }, .bool true, .int .i64 3] W fun e w' => ∃ b nb, e = .returned (.tuple #[.pointer (some ⟨b, 0, none⟩), .int .i64 0]) ∧ AutoAt w' b (outV nb) ∧ NfaAt w' nb [97, 98] true ∧ Below W.heap.size W w') := Lib.hid (fun W => by
    have hC4 : Closed (cntL true [97, 98]) (sampL (cntL true [97, 98])) 4 := by unfold Closed; decide +kernel
    have := anew_any pab true 3 W (by decide) (sortsN_small (by decide +kernel)) (by decide) (by decide)
    rw [show normP pab = [97, 98] by decide +kernel] at this
    refine Calls.mono this ?_
    rintro e w1 ⟨⟨n, _, _, _, _, hn, hle, _⟩ | ⟨b, nb, _, rfl, h1, h2⟩, hb⟩
    · have := Closed.unique hn hC4
      omega
    · exact ⟨b, nb, rfl, h1, h2, hb⟩)
  have C4 : Hid (∀ W, Calls Try.prog 8 #[.string { data := #[97] }, .bool false, .int .i64 0] W fun e w' => e = .returned (.tuple #[.pointer none, .int .i64 2]) ∧ Below W.heap.size W w') := Lib.hid (fun W => anew_most paa false 0 W (by decide) (by decide))
  have C5 := Lib.hid lives_any
  have hns : noSt [97, 98] := by have := normP_no pab; rwa [show normP pab = [97, 98] by decide +kernel] at this
  have C9 : Hid (∀ W b nb, AutoAt W b (outV nb) → NfaAt W nb [97, 98] true → Calls Try.prog 13 #[.pointer (some ⟨b, 0, none⟩), .string { data := #[65, 66] }] W fun e w' => e = .returned (.bool true) ∧ Below W.heap.size W w') := Lib.hid (fun W b nb h ho => by
    have := omatch_any h ho (by decide) hns ⟨#[65, 66]⟩ (by decide)
    rwa [show mt true [97, 98] (ByteArray.mk #[65, 66]).data.toList = true by decide +kernel] at this)
  have C10 : Hid (∀ W b nb, AutoAt W b (outV nb) → NfaAt W nb [97, 98] true → Calls Try.prog 13 #[.pointer (some ⟨b, 0, none⟩), .string { data := #[65] }] W fun e w' => e = .returned (.bool false) ∧ Below W.heap.size W w') := Lib.hid (fun W b nb h ho => by
    have := omatch_any h ho (by decide) hns ⟨#[65]⟩ (by decide)
    rwa [show mt true [97, 98] (ByteArray.mk #[65]).data.toList = false by decide +kernel] at this)
  clear hns
  go_enter Try.func3, Try.ntmps3
  go_wp2_with fail
  refine C1.out.mono ?_
  rintro e w1 ⟨a1, c1, b2, o2, c2, b3, o3, c3, r, rc, rfl, R1, K1, hb1⟩
  have hsz : Hid ((w1.alloc (.cells #[.slice a1 256 c1, .slice (some ⟨b2, o2, none⟩) 1 c2, .slice (some ⟨b3, o3, none⟩) 1 c3] 26)).heap.size = w1.heap.size + 1) := Lib.hid (by unfold World.alloc; exact Array.size_push ..)
  have hA : Hid (Below w1.heap.size w1 (w1.alloc (.cells #[.slice a1 256 c1, .slice (some ⟨b2, o2, none⟩) 1 c2, .slice (some ⟨b3, o3, none⟩) 1 c3] 26))) := Lib.hid ((Below.refl _ _).alloc (Nat.le_refl _) _)
  replace hb1 := Lib.hid hb1
  clear C1
  go_wp2_with fail
  refine (C2.out _).mono ?_
  rintro e w2 ⟨rfl, hd2⟩
  go_wp2_with fail
  refine (C3.out _).mono ?_
  rintro e w3 ⟨b, nb, rfl, hau, hnf, hb3⟩
  have hd3 := on1 (hd2.alloc hd2.size _) hb3 (Nat.le_refl _)
  have hl1 := hau.lt
  have hl2 := hnf.lt
  clear hb3 hd2
  go_wp2_with fail
  refine (C4.out _).mono ?_
  rintro e w4 ⟨rfl, hb4⟩
  have hd4 := on1 hd3 hb4 (Nat.le_refl _)
  clear hd3
  go_wp2_with fail
  refine (C5.out _).mono ?_
  rintro e w5 ⟨rfl, hb5⟩
  have hd5 := on1 hd4 hb5 (Nat.le_refl _)
  replace hb5 := on1 hb4 hb5 (Nat.le_refl _)
  clear hd4 hb4
  have hce : ∀ i, w5.cell? ⟨w1.heap.size, i, none⟩ = (#[.slice a1 256 c1, .slice (some ⟨b2, o2, none⟩) 1 c2, .slice (some ⟨b3, o3, none⟩) 1 c3] : Array Value)[i]? := fun i => (hd5.cell (p := ⟨w1.heap.size, i, none⟩) (by rw [hsz.out]; exact Nat.lt_succ_self _)).trans (World.cell?_alloc_new ..)
  have k0 : w5.cell? ⟨w1.heap.size, 0, none⟩ = some (.slice a1 256 c1) := hce 0
  have k1 : w5.cell? ⟨w1.heap.size, 1, none⟩ = some (.slice (some ⟨b2, o2, none⟩) 1 c2) := hce 1
  have k2 : w5.cell? ⟨w1.heap.size, 2, none⟩ = some (.slice (some ⟨b3, o3, none⟩) 1 c3) := hce 2
  have h15 := hA.out.trans (hd5.mono (by rw [hsz.out]; exact Nat.le_succ _))
  obtain ⟨r1, r2⟩ := R1.out w5 h15
  have C6 := Lib.hid (K1.out w5 h15)
  have hbw := Lib.hid (hb1.out.trans (h15.mono hb1.out.size))
  clear hce hd5 h15 R1 K1 hb1 hA
  replace hb5 := Lib.hid hb5
  replace hau := Lib.hid hau
  replace hnf := Lib.hid hnf
  clear C2 C3 C4 C5
  go_wp2_with fail
  refine C6.out.mono ?_
  rintro e w6 ⟨rfl, hb6⟩
  have h36 := Lib.hid (on1 hb5.out hb6 (Nat.le_refl _))
  have hbw6 := Lib.hid (on1 hbw.out hb6 (Nat.le_refl _))
  have C7 := Lib.hid (ofull_any (hau.out.below h36.out hl1))
  clear hb6 hbw hb5 C6
  go_wp2_with fail
  refine C7.out.mono ?_
  rintro e w7 ⟨rfl, hb7⟩
  have h37 := Lib.hid (on1 h36.out hb7 (Nat.le_refl _))
  have hbw7 := Lib.hid (on1 hbw6.out hb7 (Nat.le_refl _))
  have C8 := Lib.hid (ostates_any (hau.out.below h37.out hl1))
  clear hb7 hbw6 h36 C7
  go_wp2_with fail
  refine C8.out.mono ?_
  rintro e w8 ⟨rfl, hb8⟩
  have h38 := Lib.hid (on1 h37.out hb8 (Nat.le_refl _))
  have hbw8 := Lib.hid (on1 hbw7.out hb8 (Nat.le_refl _))
  replace C9 := Lib.hid (C9.out _ _ _ (hau.out.below h38.out hl1) (hnf.out.below h38.out hl2))
  clear hb8 hbw7 h37 C8
  go_wp2_with fail
  refine C9.out.mono ?_
  rintro e w9 ⟨rfl, hb9⟩
  have h39 := Lib.hid (on1 h38.out hb9 (Nat.le_refl _))
  have hbw9 := Lib.hid (on1 hbw8.out hb9 (Nat.le_refl _))
  replace C10 := Lib.hid (C10.out _ _ _ (hau.out.below h39.out hl1) (hnf.out.below h39.out hl2))
  clear hb9 hbw8 h38 C9
  go_wp2_with fail
  refine C10.out.mono ?_
  rintro e w10 ⟨rfl, hb10⟩
  have hfin := Lib.hid (on1 hbw9.out hb10 (Nat.le_refl _))
  clear hb10 hbw9 h39 C10
  go_wp2_with fail
  go_ret
  exact ⟨rfl, hfin.out⟩

open Go.ChangeShapes Go.WideShapes Go.ChangeAt
open Go.ChangeMaps (open_string shut_string)
theorem names_own : ownKnob Try.prog.godebug = none := by kernel_rfl

set_option maxRecDepth 100000 in
theorem names_lifted (os : Os) (started : os.Started) (H : Type) (enc : TypeId × Value → H) :
    ReturnsInHanded {} Try.checked os 3 .any (Rows.dfaNamesSpec.pre6 enc Try.prog Try.f3 Rows.dfaNamesRow.domain false) (Rows.dfaNamesSpec.post enc Try.prog Try.f3 false true false false) := by
  refine returnsInHanded_of_change (C := Try.checked) names_own started (by kernel_rfl) Try.func3
    (ChangeSpec.witness6 (enc := enc) (C := Try.checked) false ⟨#[], #[], []⟩ 8 (by kernel_rfl) (by kernel_rfl) (by kernel_rfl) (by kernel_rfl)) ?_
  intro W base args ds gs before hval0 hW hcnd _
  have hW' := hW
  obtain ⟨p, q, hA0, hV, rfl, hfz, hnd⟩ := hW
  have hA : DataW.TrodAll enc Try.prog W 0 (fun _ => true) true Try.f3.params.toList args.toList ds p := hA0
  rw [Try.params3] at hA
  obtain ⟨hargs, rfl, rfl⟩ := trodAll_nil hA
  obtain rfl : args = #[] := by cases args; simp_all
  obtain ⟨rfl, rfl⟩ := trodVars_none hV
  clear hA0 hval0
  simp only [List.append_nil] at hW'
  refine (names_any W).mono fun e W' ⟨he, bel⟩ => ?_
  subst he
  exact ⟨_, rfl, _, _, _, [], _, [], hW', trodAll_mk1 (shut_bool Try.underlying4 _), trodAll_mk0, rfl, bel.frame _, fun h => by cases h⟩

/-- The statement. -/
theorem names_said : Rows.DfaNamesSaid :=
  OpenClaim.holds_of_wide 3 Try.f3 rfl rfl rfl rfl rfl rfl rfl ⟨rfl, rfl, rfl, rfl, rfl⟩ rfl rfl rfl rfl rfl (by kernel_rfl) Try.func3 (by kernel_rfl)
    (of_decide_eq_true (by kernel_rfl)) (by unfold Func.isWrapper; first | (rw [if_pos (by decide +kernel)]; kernel_rfl) | (rw [if_neg (by decide +kernel)]; exact ⟨rfl, rfl⟩))
    (fun os started H enc _ => names_lifted os started H enc)
#print axioms names_said
end Go.Proofs.Ytlaomiahjihahaa
