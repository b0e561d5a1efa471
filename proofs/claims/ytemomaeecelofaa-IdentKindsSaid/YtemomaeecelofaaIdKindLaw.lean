/-
  What is proved: outlawlaw04.IdentKinds returns true for any string: a string is of at most one kind; Lower preserves the length, and whether it is a server, a room, an event; applied twice it is the same as once; a user in lower case is one. No conditions.
-/
import Derived.Test.YtemomaeecelofaaIdLaw
import Derived.Test.YtemomaeecelofaaRows
import Derived.ProofKit
import Derived.OpenShut
import Derived.ShutString
import Derived.Deep.CutRange
import Derived.Deep.RegionWith
namespace Go.Proofs.Ytemomaeecelofaa
open Go.RowKit

/-- A call's contract, told from an earlier world on. -/
theorem onto {f : Nat} {args : Array Value} {v : Ending} {w0 : World} (h : ∀ w, Calls Try.prog f args w fun e w' => e = v ∧ Below w.heap.size w w') :
    ∀ w1, Below w0.heap.size w0 w1 → Calls Try.prog f args w1 fun e w' => e = v ∧ Below w0.heap.size w0 w' := fun w1 hb => (h w1).mono fun _ _ ⟨he, b⟩ => ⟨he, hb.trans (b.mono hb.size)⟩

/-- The list of the five answers, as it lies in memory. -/
def FiveIs (B kl : Nat) (w : World) : Prop := B < w.heap.size ∧ ∀ j : Nat, j < 5 → w.cell? ⟨B, j, none⟩ = some (.bool (decide (kl = j)))
theorem FiveIs.below {B kl : Nat} {w w' : World} (h : FiveIs B kl w) (hb : Below w.heap.size w w') : FiveIs B kl w' :=
  ⟨Nat.lt_of_lt_of_le h.1 hb.size, fun j hj => (hb.cell (p := ⟨B, j, none⟩) h.1).trans (h.2 j hj)⟩
theorem FiveIs.drew {B kl : Nat} {w : World} (h : FiveIs B kl w) : FiveIs B kl w.drew := ⟨h.1, fun j hj => h.2 j hj⟩

/-- How many of the first k are true. -/
def upTo (kl k : Nat) : Int := if kl < k then 1 else 0

set_option maxHeartbeats 4000000 in
theorem kinds_core (s l : ByteArray) (kl : Nat) (hkl : kl < 5) (w : World) (hs : s.size ≤ 600) (hl : l.size = s.size) (hne : s.size = 0 → kl = 0)
    (cu : ∀ w, Calls Try.prog 15 #[.string s] w fun e w' => e = .returned (.bool (decide (kl = 1))) ∧ Below w.heap.size w w')
    (cr : ∀ w, Calls Try.prog 17 #[.string s] w fun e w' => e = .returned (.bool (decide (kl = 2))) ∧ Below w.heap.size w w')
    (ce : ∀ w, Calls Try.prog 19 #[.string s] w fun e w' => e = .returned (.bool (decide (kl = 3))) ∧ Below w.heap.size w w')
    (cs : ∀ w, Calls Try.prog 10 #[.string s] w fun e w' => e = .returned (.bool (decide (kl = 4))) ∧ Below w.heap.size w w')
    (ck : ∀ w, Calls Try.prog 9 #[.string s] w fun e w' => e = .returned (.int .i64 kl) ∧ Below w.heap.size w w')
    (cl : ∀ w, Calls Try.prog 11 #[.string s] w fun e w' => e = .returned (.string l) ∧ Below w.heap.size w w')
    (cl2 : ∀ w, Calls Try.prog 11 #[.string l] w fun e w' => e = .returned (.string l) ∧ Below w.heap.size w w')
    (cu2 : kl = 1 → ∀ w, Calls Try.prog 15 #[.string l] w fun e w' => e = .returned (.bool true) ∧ Below w.heap.size w w')
    (cr2 : ∀ w, Calls Try.prog 17 #[.string l] w fun e w' => e = .returned (.bool (decide (kl = 2))) ∧ Below w.heap.size w w')
    (ce2 : ∀ w, Calls Try.prog 19 #[.string l] w fun e w' => e = .returned (.bool (decide (kl = 3))) ∧ Below w.heap.size w w')
    (cs2 : ∀ w, Calls Try.prog 10 #[.string l] w fun e w' => e = .returned (.bool (decide (kl = 4))) ∧ Below w.heap.size w w') :
    Calls Try.prog 6 #[.string s] w fun e w' => e = .returned (.bool true) ∧ Below w.heap.size w w' := by
  have C0 := Lib.hid (lives_any w)
  have CU := Lib.hid (onto (w0 := w) cu)
  have CR := Lib.hid (onto (w0 := w) cr)
  have CE := Lib.hid (onto (w0 := w) ce)
  have CS := Lib.hid (onto (w0 := w) cs)
  have CK := Lib.hid ck
  have CL := Lib.hid (onto (w0 := w) cl)
  have CL2 := Lib.hid (onto (w0 := w) cl2)
  have CU2 := Lib.hid (fun h => onto (w0 := w) (cu2 h))
  have CR2 := Lib.hid (onto (w0 := w) cr2)
  have CE2 := Lib.hid (onto (w0 := w) ce2)
  have CS2 := Lib.hid (onto (w0 := w) cs2)
  clear cu cr ce cs ck cl cl2 cu2 cr2 ce2 cs2
  have g1 : decide ((600 : Int) < (s.size : Int)) = false := by simp; omega
  have HN := Lib.hid hne
  have HL := Lib.hid hl
  have hways := empty_ways s
  clear hne hl
  go_enter Try.func6, Try.ntmps6
  go_upto_region 5 with (go_at_call 8; refine C0.out.mono ?_; rintro e w1 ⟨rfl, b1⟩)
  go_cut [3] from 12 to 46 (fun s3 wx => ∃ B, s3 = .slice (some ⟨B, 0, none⟩) 5 5 ∧ w.heap.size ≤ B ∧ FiveIs B kl wx ∧ Below w.heap.size w wx)
  case first =>
    clear CK HL
    rcases hways with ⟨z1, z2, z3, _⟩ | ⟨_, z2, z3, _⟩
    · obtain rfl := HN.out z1
      clear z1
      go_wp2_with (first
        | (go_at_call 15; refine (CU.out _ ?_).mono ?_; assumption; rintro e w' ⟨rfl, b⟩)
        | (go_at_call 17; refine (CR.out _ ?_).mono ?_; assumption; rintro e w' ⟨rfl, b⟩)
        | (go_at_call 19; refine (CE.out _ ?_).mono ?_; assumption; rintro e w' ⟨rfl, b⟩)
        | (go_at_call 10; refine (CS.out _ ?_).mono ?_; assumption; rintro e w' ⟨rfl, b⟩))
      go_meet
      refine ⟨_, rfl, Below.size (by assumption), ⟨by simp, ?_⟩, Below.alloc (by assumption) (Below.size (by assumption)) _⟩
      intro j hj
      obtain rfl | rfl | rfl | rfl | rfl : j = 0 ∨ j = 1 ∨ j = 2 ∨ j = 3 ∨ j = 4 := by omega
      all_goals simp
    · obtain rfl | rfl | rfl | rfl | rfl : kl = 0 ∨ kl = 1 ∨ kl = 2 ∨ kl = 3 ∨ kl = 4 := by omega
      all_goals
        go_wp2_with (first
          | (go_at_call 15; refine (CU.out _ ?_).mono ?_; assumption; rintro e w' ⟨rfl, b⟩)
          | (go_at_call 17; refine (CR.out _ ?_).mono ?_; assumption; rintro e w' ⟨rfl, b⟩)
          | (go_at_call 19; refine (CE.out _ ?_).mono ?_; assumption; rintro e w' ⟨rfl, b⟩)
          | (go_at_call 10; refine (CS.out _ ?_).mono ?_; assumption; rintro e w' ⟨rfl, b⟩))
        go_meet
        refine ⟨_, rfl, Below.size (by assumption), ⟨by simp, ?_⟩, Below.alloc (by assumption) (Below.size (by assumption)) _⟩
        intro j hj
        obtain rfl | rfl | rfl | rfl | rfl : j = 0 ∨ j = 1 ∨ j = 2 ∨ j = 3 ∨ j = 4 := by omega
        all_goals simp
  case rest =>
    obtain ⟨B, rfl, hB, hF, hbw⟩ := hcut
    have HI0 := Lib.hid hF
    have HW0 := Lib.hid hbw
    clear hF hbw hways
    go_wp2
    go_loopg [4, 5] 5 (fun gk s4 s5 wr => ∃ k : Nat, k + gk = 5 ∧ s4 = .int .i64 (upTo kl k) ∧ s5 = .int .i64 k ∧ Hid (FiveIs B kl wr) ∧ Hid (Below w.heap.size w wr))
    case atStart => exact ⟨0, by omega, by simp [upTo], rfl, HI0, HW0⟩
    case round =>
      obtain ⟨k, hkg, rfl, rfl, HI, HW⟩ := hrel
      cases gk with
      | zero =>
        obtain rfl : k = 5 := by omega
        have hup : upTo kl 5 = 1 := by unfold upTo; rw [if_pos hkl]
        rw [hup]
        have HW1 := HW.out
        have hl := HL.out
        clear HI HW HI0 HW0 hup CK
        by_cases hk1 : kl = 1
        · have CU2 := Lib.hid (CU2.out hk1)
          rw [decide_eq_true hk1] at CU
          have HK1 := Lib.hid hk1
          clear hk1
          go_wp2_with (first
            | (go_at_call_of 15 s; refine (CU.out _ ?_).mono ?_; assumption; rintro e w' ⟨rfl, b⟩)
            | (go_at_call_of 17 s; refine (CR.out _ ?_).mono ?_; assumption; rintro e w' ⟨rfl, b⟩)
            | (go_at_call_of 19 s; refine (CE.out _ ?_).mono ?_; assumption; rintro e w' ⟨rfl, b⟩)
            | (go_at_call_of 10 s; refine (CS.out _ ?_).mono ?_; assumption; rintro e w' ⟨rfl, b⟩)
            | (go_at_call_of 11 s; refine (CL.out _ ?_).mono ?_; assumption; rintro e w' ⟨rfl, b⟩)
            | (go_at_call_of 15 l; refine (CU2.out _ ?_).mono ?_; assumption; rintro e w' ⟨rfl, b⟩)
            | (go_at_call_of 17 l; refine (CR2.out _ ?_).mono ?_; assumption; rintro e w' ⟨rfl, b⟩)
            | (go_at_call_of 19 l; refine (CE2.out _ ?_).mono ?_; assumption; rintro e w' ⟨rfl, b⟩)
            | (go_at_call_of 10 l; refine (CS2.out _ ?_).mono ?_; assumption; rintro e w' ⟨rfl, b⟩)
            | (go_at_call_of 11 l; refine (CL2.out _ ?_).mono ?_; assumption; rintro e w' ⟨rfl, b⟩))
          go_ret
          exact ⟨rfl, by assumption⟩
        · rw [decide_eq_false hk1] at CU
          have HK1 := Lib.hid hk1
          clear hk1 CU2
          go_wp2_with (first
            | (go_at_call_of 15 s; refine (CU.out _ ?_).mono ?_; assumption; rintro e w' ⟨rfl, b⟩)
            | (go_at_call_of 17 s; refine (CR.out _ ?_).mono ?_; assumption; rintro e w' ⟨rfl, b⟩)
            | (go_at_call_of 19 s; refine (CE.out _ ?_).mono ?_; assumption; rintro e w' ⟨rfl, b⟩)
            | (go_at_call_of 10 s; refine (CS.out _ ?_).mono ?_; assumption; rintro e w' ⟨rfl, b⟩)
            | (go_at_call_of 11 s; refine (CL.out _ ?_).mono ?_; assumption; rintro e w' ⟨rfl, b⟩)
            | (go_at_call_of 17 l; refine (CR2.out _ ?_).mono ?_; assumption; rintro e w' ⟨rfl, b⟩)
            | (go_at_call_of 19 l; refine (CE2.out _ ?_).mono ?_; assumption; rintro e w' ⟨rfl, b⟩)
            | (go_at_call_of 10 l; refine (CS2.out _ ?_).mono ?_; assumption; rintro e w' ⟨rfl, b⟩)
            | (go_at_call_of 11 l; refine (CL2.out _ ?_).mono ?_; assumption; rintro e w' ⟨rfl, b⟩))
          go_ret
          exact ⟨rfl, by assumption⟩
      | succ g' =>
        have hk5 : (k : Int) < 5 := by omega
        have hc := HI.out.2 k (by omega)
        by_cases hk : kl = k
        · have e1 : ((kl : Int) == (k : Int)) = true := by simp; omega
          have CKK : Hid (∀ w1, FiveIs B kl w1 → Below w.heap.size w w1 → Calls Try.prog 9 #[.string s] w1 fun e w' => e = .returned (.int .i64 kl) ∧ FiveIs B kl w' ∧ Below w.heap.size w w' ∧ w'.cell? ⟨B, k, none⟩ = some (.bool true)) := Lib.hid fun w1 hf hb => (CK.out w1).mono fun e w' ⟨he, b⟩ => ⟨he, hf.below b, hb.trans (b.mono hb.size), by rw [(hf.below b).2 k (by omega), decide_eq_true hk]⟩
          rw [decide_eq_true hk] at hc
          have HN0 : Hid (upTo kl k + 1 = upTo kl (k + 1)) := Lib.hid (by unfold upTo; rw [if_neg (by omega), if_pos (by omega)]; rfl)
          have hup : upTo kl k = 0 := by unfold upTo; rw [if_neg (by omega)]
          rw [hup]
          rw [hup] at HN0
          have hup2 : upTo kl (k + 1) = 1 := by rw [← HN0.out]; rfl
          have HK := Lib.hid hk
          clear hk hup
          go_wp2
          go_region_with (go_at_call 9; refine (CKK.out _ ?_ ?_).mono ?_; (first | exact HI.out | exact HI.out.drew); (first | exact HW.out | exact HW.out.drew); rintro e w' ⟨rfl, hF', hb', hc'⟩)
          all_goals
            have HF' := Lib.hid hF'
            have HB' := Lib.hid hb'
            clear hF' hb'
            go_wp2
            go_roundg g'
            case measure => omega
            case rel => exact ⟨k + 1, by omega, by rw [hup2], by go_num, HF', HB'⟩
        · have e1 : ((kl : Int) == (k : Int)) = false := by simp; omega
          have CKK : Hid (∀ w1, FiveIs B kl w1 → Below w.heap.size w w1 → Calls Try.prog 9 #[.string s] w1 fun e w' => e = .returned (.int .i64 kl) ∧ FiveIs B kl w' ∧ Below w.heap.size w w' ∧ w'.cell? ⟨B, k, none⟩ = some (.bool false)) := Lib.hid fun w1 hf hb => (CK.out w1).mono fun e w' ⟨he, b⟩ => ⟨he, hf.below b, hb.trans (b.mono hb.size), by rw [(hf.below b).2 k (by omega), decide_eq_false hk]⟩
          rw [decide_eq_false hk] at hc
          have hup2 : upTo kl (k + 1) = upTo kl k := by
            unfold upTo
            by_cases h : kl < k
            · rw [if_pos h, if_pos (by omega)]
            · rw [if_neg h, if_neg (by omega)]
          have HK := Lib.hid hk
          clear hk
          go_wp2
          go_region_with (go_at_call 9; refine (CKK.out _ ?_ ?_).mono ?_; (first | exact HI.out | exact HI.out.drew); (first | exact HW.out | exact HW.out.drew); rintro e w' ⟨rfl, hF', hb', hc'⟩)
          all_goals
            have HF' := Lib.hid hF'
            have HB' := Lib.hid hb'
            clear hF' hb'
            go_wp2
            go_roundg g'
            case measure => omega
            case rel => exact ⟨k + 1, by omega, by rw [hup2], by go_num, HF', HB'⟩

theorem kinds_skip (s : ByteArray) (w : World) (hs : 600 < s.size) :
    Calls Try.prog 6 #[.string s] w fun e w' => e = .returned (.bool true) ∧ Below w.heap.size w w' := by
  have C0 := Lib.hid (lives_any w)
  have g1 : decide ((600 : Int) < (s.size : Int)) = true := by simp; omega
  clear hs
  go_enter Try.func6, Try.ntmps6
  go_wp2_with (go_at_call 8; refine C0.out.mono ?_; rintro e w1 ⟨rfl, b1⟩)
  go_ret
  exact ⟨rfl, b1⟩

/-- The kind's number tells the four answers. -/
theorem kind_tells (l : List UInt8) : kindL l < 5 ∧ userL l = decide (kindL l = 1) ∧ roomL l = decide (kindL l = 2) ∧ evL l = decide (kindL l = 3) ∧ srvL l = decide (kindL l = 4) := by
  unfold kindL
  rcases kinds_ways l with ⟨h1, h2, h3, h4⟩ | ⟨h1, h2, h3, h4⟩ | ⟨h1, h2, h3, h4⟩ | ⟨h1, h2, h3, h4⟩ | ⟨h1, h2, h3, h4⟩
  all_goals
    rw [h1, h2, h3, h4]
    decide

/-- The law, for every input. -/
theorem kinds_any (s : ByteArray) (w : World) :
    Calls Try.prog 6 #[.string s] w fun e w' => e = .returned (.bool true) ∧ Below w.heap.size w w' := by
  by_cases hs : 600 < s.size
  · exact kinds_skip s w hs
  obtain ⟨h0, h1, h2, h3, h4⟩ := kind_tells s.data.toList
  have hz := Lib.size_eq s
  have hl : (str (lowerL s.data.toList)).size = s.size := by rw [str_size, low_len, hz]
  have hls : (str (lowerL s.data.toList)).size ≤ 1000000 := by omega
  have hld := str_data (lowerL s.data.toList)
  refine kinds_core s (str (lowerL s.data.toList)) (kindL s.data.toList) h0 w (by omega) hl ?_ ?_ ?_ ?_ ?_ ?_ ?_ ?_ ?_ ?_ ?_ ?_
  · intro h
    have : s.data.toList = [] := by rw [hz] at h; exact List.length_eq_zero_iff.1 h
    rw [this]; decide
  · intro w; rw [← h1]; exact user_any s w (by omega)
  · intro w; rw [← h2]; exact room_any s w (by omega)
  · intro w; rw [← h3]; exact event_any s w (by omega)
  · intro w; rw [← h4]; exact server_any s w (by omega)
  · intro w; exact kind_any s w (by omega)
  · intro w; exact lower_any s w (by omega)
  · intro w
    have := lower_any (str (lowerL s.data.toList)) w hls
    rwa [hld, low_twice] at this
  · intro h w
    have := user_any (str (lowerL s.data.toList)) w hls
    rwa [hld, low_userL (by rw [h1, h]; rfl)] at this
  · intro w
    have := room_any (str (lowerL s.data.toList)) w hls
    rwa [hld, low_roomL, h2] at this
  · intro w
    have := event_any (str (lowerL s.data.toList)) w hls
    rwa [hld, low_evL, h3] at this
  · intro w
    have := server_any (str (lowerL s.data.toList)) w hls
    rwa [hld, low_srv, h4] at this

open Go.ChangeShapes Go.WideShapes Go.ChangeAt
open Go.ChangeMaps (open_string shut_string)
theorem kinds_own : ownKnob Try.prog.godebug = none := by kernel_rfl

set_option maxRecDepth 100000 in
theorem kinds_lifted (os : Os) (started : os.Started) (H : Type) (enc : TypeId × Value → H) :
    ReturnsInHanded {} Try.checked os 6 .any (Rows.identKindsSpec.pre6 enc Try.prog Try.f6 Rows.identKindsRow.domain false) (Rows.identKindsSpec.post enc Try.prog Try.f6 false true false false) := by
  refine returnsInHanded_of_change (C := Try.checked) kinds_own started (by kernel_rfl) Try.func6
    (ChangeSpec.witness6 (enc := enc) (C := Try.checked) false ⟨#[], #[.string ByteArray.empty], []⟩ 8 (by kernel_rfl) (by kernel_rfl) (by kernel_rfl) (by kernel_rfl)) ?_
  intro W base args ds gs before hval0 hW hcnd _
  have hval : ∀ (j : Nat) t v, Try.f6.params[j]? = some t → args[j]? = some v → Value.okWide Try.prog W .any base t v := hval0
  have hW' := hW
  obtain ⟨p, q, hA0, hV, rfl, hfz, hnd⟩ := hW
  have hA : DataW.TrodAll enc Try.prog W 0 (fun _ => true) true Try.f6.params.toList args.toList ds p := hA0
  rw [Try.params6] at hA hval
  obtain ⟨v0, vs0, d0, ds0, p0, q0, hargs, rfl, rfl, h0, r0⟩ := trodAll_cons hA
  obtain ⟨rfl, rfl, rfl⟩ := trodAll_nil r0
  obtain rfl : args = #[v0] := by cases args; simp_all
  obtain ⟨rfl, rfl⟩ := trodVars_none hV
  obtain ⟨a0, rfl, rfl, rfl, w0⟩ := open_string Try.underlying9 (hval 0 9 v0 rfl rfl) h0
  clear hA0 hval0
  simp only [List.append_nil] at hW'
  refine (kinds_any a0 W).mono fun e W' ⟨he, bel⟩ => ?_
  subst he
  exact ⟨_, rfl, _, _, _, [], _, [], hW', trodAll_mk1 (shut_bool Try.underlying4 _), (trodAll_cons_mk (shut_string Try.underlying9 w0) trodAll_mk0), rfl, bel.frame _, fun h => by cases h⟩

/-- The statement. -/
theorem kinds_said : Rows.IdentKindsSaid :=
  OpenClaim.holds_of_wide 6 Try.f6 rfl rfl rfl rfl rfl rfl rfl ⟨rfl, rfl, rfl, rfl, rfl⟩ rfl rfl rfl rfl rfl (by kernel_rfl) Try.func6 (by kernel_rfl)
    (of_decide_eq_true (by kernel_rfl)) (by unfold Func.isWrapper; first | (rw [if_pos (by decide +kernel)]; kernel_rfl) | (rw [if_neg (by decide +kernel)]; exact ⟨rfl, rfl⟩))
    (fun os started H enc _ => kinds_lifted os started H enc)
#print axioms kinds_said
end Go.Proofs.Ytemomaeecelofaa

