/-
  What is proved: outlawlaw04.IdentParts returns true for any two names and any server: a user is exactly a name and a server; its server is that, in lower case; with another name it belongs to the same one. No conditions.
-/
import Derived.Test.YtemomaeecelofaaIdLaw
import Derived.Test.YtemomaeecelofaaRows
import Derived.ProofKit
import Derived.OpenShut
import Derived.ShutString
namespace Go.Proofs.Ytemomaeecelofaa
open Go.RowKit

/-- A user of these parts. -/
def usr (a c : ByteArray) : ByteArray := ⟨#[64]⟩ ++ a ++ ⟨#[58]⟩ ++ c
theorem usr_data (a c : ByteArray) : (usr a c).data.toList = 64 :: a.data.toList ++ 58 :: c.data.toList := by
  unfold usr
  rw [cat_data, cat_data, cat_data]
  simp
theorem usr_size (a c : ByteArray) : (usr a c).size = a.size + c.size + 2 := by
  unfold usr
  rw [cat_size, cat_size, cat_size]
  have : (⟨#[64]⟩ : ByteArray).size = 1 := rfl
  have : (⟨#[58]⟩ : ByteArray).size = 1 := rfl
  omega

set_option maxHeartbeats 4000000 in
theorem parts_core (a b c su st lc : ByteArray) (sm sv uu vv : Bool) (w : World) (ha : a.size ≤ 600) (hb : b.size ≤ 600) (hc : c.size ≤ 600)
    (ca : ∀ w, Calls Try.prog 23 #[.string a] w fun e w' => e = .returned (.bool false) ∧ w = w')
    (cb : ∀ w, Calls Try.prog 23 #[.string b] w fun e w' => e = .returned (.bool false) ∧ w = w')
    (cs : ∀ w, Calls Try.prog 24 #[.string a] w fun e w' => e = .returned (.bool sm) ∧ w = w')
    (cv : ∀ w, Calls Try.prog 10 #[.string c] w fun e w' => e = .returned (.bool sv) ∧ Below w.heap.size w w')
    (co : ∀ w, Calls Try.prog 12 #[.string (usr a c)] w fun e w' => e = .returned (.tuple #[.string su, .bool uu]) ∧ Below w.heap.size w w')
    (cu : ∀ w, Calls Try.prog 15 #[.string (usr a c)] w fun e w' => e = .returned (.bool uu) ∧ Below w.heap.size w w')
    (cl : ∀ w, Calls Try.prog 11 #[.string c] w fun e w' => e = .returned (.string lc) ∧ Below w.heap.size w w')
    (ct : ∀ w, Calls Try.prog 12 #[.string (usr b c)] w fun e w' => e = .returned (.tuple #[.string st, .bool vv]) ∧ Below w.heap.size w w')
    (hu : uu = (decide (a.size + c.size + 2 ≤ 255) && (sm && sv))) (hs1 : uu = true → su = lc) (hs0 : uu = false → su = ⟨#[]⟩) (ht : uu = true → vv = true → st = su) :
    Calls Try.prog 5 #[.string a, .string b, .string c] w fun e w' => e = .returned (.bool true) ∧ Below w.heap.size w w' := by
  have C0 := Lib.hid (lives_any w)
  have CA := Lib.hid ca
  have CB := Lib.hid cb
  have CS := Lib.hid cs
  have CV := Lib.hid cv
  have CO := Lib.hid co
  have CU := Lib.hid cu
  have CL := Lib.hid cl
  have CT := Lib.hid ct
  have g1 : decide ((600 : Int) < (a.size : Int)) = false := by simp; omega
  have g2 : decide ((600 : Int) < (b.size : Int)) = false := by simp; omega
  have g3 : decide ((600 : Int) < (c.size : Int)) = false := by simp; omega
  have HT := Lib.hid ht
  clear ca cb cs cv co cu cl ct ht
  have hsz := usr_size a c
  cases hsm : sm with
  | false =>
    rw [hsm, Bool.false_and, Bool.and_false] at hu
    have h0 := hs0 hu
    rw [hu, h0] at CO
    rw [hu] at CU
    rw [hsm] at CS
    clear hsm hu h0 hs0 hs1 HT hsz
    go_enter Try.func5, Try.ntmps5
    go_wp2_with (go_at_call 8; refine C0.out.mono ?_; rintro e w1 ⟨rfl, b1⟩)
    refine (CA.out w1).mono ?_
    rintro e w2 ⟨rfl, rfl⟩
    go_wp2_with fail
    refine (CB.out w1).mono ?_
    rintro e w2 ⟨rfl, rfl⟩
    go_wp2_with fail
    refine (CS.out w1).mono ?_
    rintro e w2 ⟨rfl, rfl⟩
    go_wp2_with fail
    refine (CO.out w1).mono ?_
    rintro e w2 ⟨rfl, b2⟩
    replace b2 := b1.trans (b2.mono b1.size)
    clear b1
    go_wp2_with fail
    refine (CU.out w2).mono ?_
    rintro e w3 ⟨rfl, b3⟩
    replace b3 := b2.trans (b3.mono b2.size)
    clear b2
    go_wp2_with fail
    refine (CT.out w3).mono ?_
    rintro e w4 ⟨rfl, b4⟩
    replace b4 := b3.trans (b4.mono b3.size)
    clear b3
    go_wp2
    go_ret
    exact ⟨rfl, b4⟩
  | true =>
    rw [hsm] at CS
    cases hsv : sv with
    | false =>
      rw [hsv, hsm, Bool.and_false, Bool.and_false] at hu
      have h0 := hs0 hu
      rw [hu, h0] at CO
      rw [hu] at CU
      rw [hsv] at CV
      clear hsm hsv hu h0 hs0 hs1 HT hsz CL
      go_enter Try.func5, Try.ntmps5
      go_wp2_with (go_at_call 8; refine C0.out.mono ?_; rintro e w1 ⟨rfl, b1⟩)
      refine (CA.out w1).mono ?_
      rintro e w2 ⟨rfl, rfl⟩
      go_wp2_with fail
      refine (CB.out w1).mono ?_
      rintro e w2 ⟨rfl, rfl⟩
      go_wp2_with fail
      refine (CS.out w1).mono ?_
      rintro e w2 ⟨rfl, rfl⟩
      go_wp2_with fail
      refine (CV.out w1).mono ?_
      rintro e w2 ⟨rfl, b2⟩
      replace b1 := b1.trans (b2.mono b1.size)
      clear b2
      go_wp2_with fail
      refine (CO.out w2).mono ?_
      rintro e w3 ⟨rfl, b3⟩
      replace b2 := b1.trans (b3.mono b1.size)
      clear b1 b3
      go_wp2_with fail
      refine (CU.out w3).mono ?_
      rintro e w4 ⟨rfl, b4⟩
      replace b4 := b2.trans (b4.mono b2.size)
      clear b2
      go_wp2_with fail
      refine (CT.out w4).mono ?_
      rintro e w6 ⟨rfl, b6⟩
      replace b6 := b4.trans (b6.mono b4.size)
      clear b4
      go_wp2
      go_ret
      exact ⟨rfl, b6⟩
    | true =>
      rw [hsv] at CV
      by_cases hz : a.size + c.size + 2 ≤ 255
      · have g4 : decide ((1 : Int) + (a.size : Int) + 1 + (c.size : Int) ≤ 255) = true := by simp; omega
        rw [hsm, hsv, decide_eq_true hz] at hu
        have h1 := hs1 hu
        rw [hu, h1] at CO
        rw [hu] at CU
        cases hv : vv with
        | false =>
          rw [hv] at CT
          clear hsm hsv hv hu h1 hs0 hs1 HT hsz
          go_enter Try.func5, Try.ntmps5
          go_wp2_with (go_at_call 8; refine C0.out.mono ?_; rintro e w1 ⟨rfl, b1⟩)
          refine (CA.out w1).mono ?_
          rintro e w2 ⟨rfl, rfl⟩
          go_wp2_with fail
          refine (CB.out w1).mono ?_
          rintro e w2 ⟨rfl, rfl⟩
          go_wp2_with fail
          refine (CS.out w1).mono ?_
          rintro e w2 ⟨rfl, rfl⟩
          go_wp2_with fail
          refine (CV.out w1).mono ?_
          rintro e w2 ⟨rfl, b2⟩
          replace b1 := b1.trans (b2.mono b1.size)
          clear b2
          go_wp2_with fail
          refine (CO.out w2).mono ?_
          rintro e w3 ⟨rfl, b3⟩
          replace b2 := b1.trans (b3.mono b1.size)
          clear b1 b3
          go_wp2_with fail
          refine (CU.out w3).mono ?_
          rintro e w4 ⟨rfl, b4⟩
          replace b4 := b2.trans (b4.mono b2.size)
          clear b2
          go_wp2_with fail
          refine (CL.out w4).mono ?_
          rintro e w5 ⟨rfl, b5⟩
          replace b4 := b4.trans (b5.mono b4.size)
          clear b5
          go_wp2_with fail
          refine (CT.out w5).mono ?_
          rintro e w6 ⟨rfl, b6⟩
          replace b6 := b4.trans (b6.mono b4.size)
          clear b4
          go_wp2
          go_ret
          exact ⟨rfl, b6⟩
        | true =>
          rw [hv, HT.out hu hv, h1] at CT
          clear hsm hsv hv hu h1 hs0 hs1 HT hsz
          go_enter Try.func5, Try.ntmps5
          go_wp2_with (go_at_call 8; refine C0.out.mono ?_; rintro e w1 ⟨rfl, b1⟩)
          refine (CA.out w1).mono ?_
          rintro e w2 ⟨rfl, rfl⟩
          go_wp2_with fail
          refine (CB.out w1).mono ?_
          rintro e w2 ⟨rfl, rfl⟩
          go_wp2_with fail
          refine (CS.out w1).mono ?_
          rintro e w2 ⟨rfl, rfl⟩
          go_wp2_with fail
          refine (CV.out w1).mono ?_
          rintro e w2 ⟨rfl, b2⟩
          replace b1 := b1.trans (b2.mono b1.size)
          clear b2
          go_wp2_with fail
          refine (CO.out w2).mono ?_
          rintro e w3 ⟨rfl, b3⟩
          replace b2 := b1.trans (b3.mono b1.size)
          clear b1 b3
          go_wp2_with fail
          refine (CU.out w3).mono ?_
          rintro e w4 ⟨rfl, b4⟩
          replace b4 := b2.trans (b4.mono b2.size)
          clear b2
          go_wp2_with fail
          refine (CL.out w4).mono ?_
          rintro e w5 ⟨rfl, b5⟩
          replace b4 := b4.trans (b5.mono b4.size)
          clear b5
          go_wp2_with fail
          refine (CT.out w5).mono ?_
          rintro e w6 ⟨rfl, b6⟩
          replace b6 := b4.trans (b6.mono b4.size)
          clear b4
          go_wp2
          go_ret
          exact ⟨rfl, b6⟩
      · have g4 : decide ((1 : Int) + (a.size : Int) + 1 + (c.size : Int) ≤ 255) = false := by simp; omega
        rw [decide_eq_false hz, Bool.false_and] at hu
        have h0 := hs0 hu
        rw [hu, h0] at CO
        rw [hu] at CU
        clear hsm hsv hu h0 hs0 hs1 HT hsz CL
        go_enter Try.func5, Try.ntmps5
        go_wp2_with (go_at_call 8; refine C0.out.mono ?_; rintro e w1 ⟨rfl, b1⟩)
        refine (CA.out w1).mono ?_
        rintro e w2 ⟨rfl, rfl⟩
        go_wp2_with fail
        refine (CB.out w1).mono ?_
        rintro e w2 ⟨rfl, rfl⟩
        go_wp2_with fail
        refine (CS.out w1).mono ?_
        rintro e w2 ⟨rfl, rfl⟩
        go_wp2_with fail
        refine (CV.out w1).mono ?_
        rintro e w2 ⟨rfl, b2⟩
        replace b1 := b1.trans (b2.mono b1.size)
        clear b2
        go_wp2_with fail
        refine (CO.out w2).mono ?_
        rintro e w3 ⟨rfl, b3⟩
        replace b2 := b1.trans (b3.mono b1.size)
        clear b1 b3
        go_wp2_with fail
        refine (CU.out w3).mono ?_
        rintro e w4 ⟨rfl, b4⟩
        replace b4 := b2.trans (b4.mono b2.size)
        clear b2
        go_wp2_with fail
        refine (CT.out w4).mono ?_
        rintro e w6 ⟨rfl, b6⟩
        replace b6 := b4.trans (b6.mono b4.size)
        clear b4
        go_wp2
        go_ret
        exact ⟨rfl, b6⟩

set_option maxHeartbeats 1000000 in
theorem parts_skip (a b c : ByteArray) (w : World) (h : 600 < a.size ∨ (a.size ≤ 600 ∧ 600 < b.size) ∨ (a.size ≤ 600 ∧ b.size ≤ 600 ∧ 600 < c.size)) :
    Calls Try.prog 5 #[.string a, .string b, .string c] w fun e w' => e = .returned (.bool true) ∧ Below w.heap.size w w' := by
  have C0 := Lib.hid (lives_any w)
  rcases h with h | ⟨h1, h⟩ | ⟨h1, h2, h⟩
  · have g1 : decide ((600 : Int) < (a.size : Int)) = true := by simp; omega
    clear h
    go_enter Try.func5, Try.ntmps5
    go_wp2_with (go_at_call 8; refine C0.out.mono ?_; rintro e w1 ⟨rfl, b1⟩)
    go_ret
    exact ⟨rfl, b1⟩
  · have g1 : decide ((600 : Int) < (a.size : Int)) = false := by simp; omega
    have g2 : decide ((600 : Int) < (b.size : Int)) = true := by simp; omega
    clear h h1
    go_enter Try.func5, Try.ntmps5
    go_wp2_with (go_at_call 8; refine C0.out.mono ?_; rintro e w1 ⟨rfl, b1⟩)
    go_ret
    exact ⟨rfl, b1⟩
  · have g1 : decide ((600 : Int) < (a.size : Int)) = false := by simp; omega
    have g2 : decide ((600 : Int) < (b.size : Int)) = false := by simp; omega
    have g3 : decide ((600 : Int) < (c.size : Int)) = true := by simp; omega
    clear h h1 h2
    go_enter Try.func5, Try.ntmps5
    go_wp2_with (go_at_call 8; refine C0.out.mono ?_; rintro e w1 ⟨rfl, b1⟩)
    go_ret
    exact ⟨rfl, b1⟩

set_option maxHeartbeats 1000000 in
theorem parts_colon (a b c : ByteArray) (w : World) (ha : a.size ≤ 600) (hb : b.size ≤ 600) (hc : c.size ≤ 600) (ba bb : Bool) (h : ba = true ∨ (ba = false ∧ bb = true))
    (ca : ∀ w, Calls Try.prog 23 #[.string a] w fun e w' => e = .returned (.bool ba) ∧ w = w')
    (cb : ∀ w, Calls Try.prog 23 #[.string b] w fun e w' => e = .returned (.bool bb) ∧ w = w') :
    Calls Try.prog 5 #[.string a, .string b, .string c] w fun e w' => e = .returned (.bool true) ∧ Below w.heap.size w w' := by
  have C0 := Lib.hid (lives_any w)
  have CA := Lib.hid ca
  have CB := Lib.hid cb
  clear ca cb
  have g1 : decide ((600 : Int) < (a.size : Int)) = false := by simp; omega
  have g2 : decide ((600 : Int) < (b.size : Int)) = false := by simp; omega
  have g3 : decide ((600 : Int) < (c.size : Int)) = false := by simp; omega
  rcases h with rfl | ⟨rfl, rfl⟩
  · go_enter Try.func5, Try.ntmps5
    go_wp2_with (go_at_call 8; refine C0.out.mono ?_; rintro e w1 ⟨rfl, b1⟩)
    refine (CA.out w1).mono ?_
    rintro e w2 ⟨rfl, rfl⟩
    go_wp2
    go_ret
    exact ⟨rfl, b1⟩
  · go_enter Try.func5, Try.ntmps5
    go_wp2_with (go_at_call 8; refine C0.out.mono ?_; rintro e w1 ⟨rfl, b1⟩)
    refine (CA.out w1).mono ?_
    rintro e w2 ⟨rfl, rfl⟩
    go_wp2_with fail
    refine (CB.out w1).mono ?_
    rintro e w2 ⟨rfl, rfl⟩
    go_wp2
    go_ret
    exact ⟨rfl, b1⟩

/-- The law, for every input. -/
theorem parts_any (a b c : ByteArray) (w : World) :
    Calls Try.prog 5 #[.string a, .string b, .string c] w fun e w' => e = .returned (.bool true) ∧ Below w.heap.size w w' := by
  by_cases h : 600 < a.size ∨ (a.size ≤ 600 ∧ 600 < b.size) ∨ (a.size ≤ 600 ∧ b.size ≤ 600 ∧ 600 < c.size)
  · exact parts_skip a b c w h
  have ha : a.size ≤ 600 := by omega
  have hb : b.size ≤ 600 := by omega
  have hc : c.size ≤ 600 := by omega
  have ca := fun w => colon_any a w (by omega)
  have cb := fun w => colon_any b w (by omega)
  cases h1 : hasC a.data.toList with
  | true => exact parts_colon a b c w ha hb hc _ _ (.inl h1) ca cb
  | false =>
  cases h2 : hasC b.data.toList with
  | true => exact parts_colon a b c w ha hb hc _ _ (.inr ⟨h1, h2⟩) ca cb
  | false =>
  rw [h1] at ca
  rw [h2] at cb
  have us : ∀ x : ByteArray, x.size ≤ 600 → (usr x c).size ≤ 1000000 := fun x hx => by rw [usr_size]; omega
  have hu : ∀ x : ByteArray, hasC x.data.toList = false → userL (usr x c).data.toList = (decide (x.size + c.size + 2 ≤ 255) && (onlyL userC x.data.toList && srvL c.data.toList)) := fun x hx => by
    have := usr_size x c
    rw [Lib.size_eq, usr_data] at this
    rw [usr_data, userL_mk hx, this]
  have hp : ∀ x : ByteArray, hasC x.data.toList = false → post (usr x c).data.toList = c.data.toList := fun x hx => by
    rw [usr_data]
    exact post_mk (n := 64 :: x.data.toList) (by simpa [hasC] using hx)
  refine parts_core a b c (str (srvOf (usr a c).data.toList)) (str (srvOf (usr b c).data.toList)) (str (lowerL c.data.toList)) _ _ _ _ w ha hb hc ca cb
    (fun w => small_any a w (by omega)) (fun w => server_any c w (by omega)) (fun w => serverOf_any _ w (us a ha)) (fun w => user_any _ w (us a ha)) (fun w => lower_any c w (by omega)) (fun w => serverOf_any _ w (us b hb)) (hu a h1) ?_ ?_ ?_
  · intro h
    unfold srvOf
    rw [if_pos h, hp a h1]
  · intro h
    unfold srvOf
    rw [h]
    rfl
  · intro h h'
    unfold srvOf
    rw [if_pos h, if_pos h', hp a h1, hp b h2]

open Go.ChangeShapes Go.WideShapes Go.ChangeAt
open Go.ChangeMaps (open_string shut_string)
theorem parts_own : ownKnob Try.prog.godebug = none := by kernel_rfl

set_option maxRecDepth 100000 in
theorem parts_lifted (os : Os) (started : os.Started) (H : Type) (enc : TypeId × Value → H) :
    ReturnsInHanded {} Try.checked os 5 .any (Rows.identPartsSpec.pre6 enc Try.prog Try.f5 Rows.identPartsRow.domain false) (Rows.identPartsSpec.post enc Try.prog Try.f5 false true false false) := by
  refine returnsInHanded_of_change (C := Try.checked) parts_own started (by kernel_rfl) Try.func5
    (ChangeSpec.witness6 (enc := enc) (C := Try.checked) false ⟨#[], #[.string ByteArray.empty, .string ByteArray.empty, .string ByteArray.empty], []⟩ 8 (by kernel_rfl) (by kernel_rfl) (by kernel_rfl) (by kernel_rfl)) ?_
  intro W base args ds gs before hval0 hW hcnd _
  have hval : ∀ (j : Nat) t v, Try.f5.params[j]? = some t → args[j]? = some v → Value.okWide Try.prog W .any base t v := hval0
  have hW' := hW
  obtain ⟨p, q, hA0, hV, rfl, hfz, hnd⟩ := hW
  have hA : DataW.TrodAll enc Try.prog W 0 (fun _ => true) true Try.f5.params.toList args.toList ds p := hA0
  rw [Try.params5] at hA hval
  obtain ⟨v0, vs0, d0, ds0, p0, q0, hargs, rfl, rfl, h0, r0⟩ := trodAll_cons hA
  obtain ⟨v1, vs1, d1, ds1, p1, q1, rfl, rfl, rfl, h1, r1⟩ := trodAll_cons r0
  obtain ⟨v2, vs2, d2, ds2, p2, q2, rfl, rfl, rfl, h2, r2⟩ := trodAll_cons r1
  obtain ⟨rfl, rfl, rfl⟩ := trodAll_nil r2
  obtain rfl : args = #[v0, v1, v2] := by cases args; simp_all
  obtain ⟨rfl, rfl⟩ := trodVars_none hV
  obtain ⟨a0, rfl, rfl, rfl, w0⟩ := open_string Try.underlying9 (hval 0 9 v0 rfl rfl) h0
  obtain ⟨a1, rfl, rfl, rfl, w1⟩ := open_string Try.underlying9 (hval 1 9 v1 rfl rfl) h1
  obtain ⟨a2, rfl, rfl, rfl, w2⟩ := open_string Try.underlying9 (hval 2 9 v2 rfl rfl) h2
  clear hA0 hval0
  simp only [List.append_nil] at hW'
  refine (parts_any a0 a1 a2 W).mono fun e W' ⟨he, bel⟩ => ?_
  subst he
  exact ⟨_, rfl, _, _, _, [], _, [], hW', trodAll_mk1 (shut_bool Try.underlying4 _), (trodAll_cons_mk (shut_string Try.underlying9 w0) (trodAll_cons_mk (shut_string Try.underlying9 w1) (trodAll_cons_mk (shut_string Try.underlying9 w2) trodAll_mk0))), rfl, bel.frame _, fun h => by cases h⟩

/-- The statement. -/
theorem parts_said : Rows.IdentPartsSaid :=
  OpenClaim.holds_of_wide 5 Try.f5 rfl rfl rfl rfl rfl rfl rfl ⟨rfl, rfl, rfl, rfl, rfl⟩ rfl rfl rfl rfl rfl (by kernel_rfl) Try.func5 (by kernel_rfl)
    (of_decide_eq_true (by kernel_rfl)) (by unfold Func.isWrapper; first | (rw [if_pos (by decide +kernel)]; kernel_rfl) | (rw [if_neg (by decide +kernel)]; exact ⟨rfl, rfl⟩))
    (fun os started H enc _ => parts_lifted os started H enc)
#print axioms parts_said
end Go.Proofs.Ytemomaeecelofaa
