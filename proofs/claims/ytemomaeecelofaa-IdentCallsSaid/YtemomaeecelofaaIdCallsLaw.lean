/-
  What is proved: outlawlaw04.IdentCalls returns true for any string: what is an identifier, of which kind, and of which server, is what the document's own answers (package outlawref04) say. No conditions.
-/
import Derived.Test.YtemomaeecelofaaIdRefC
import Derived.Test.YtemomaeecelofaaRows
import Derived.ProofKit
import Derived.OpenShut
import Derived.ShutString
namespace Go.Proofs.Ytemomaeecelofaa
open Go.RowKit

theorem refNamed (s m : ByteArray) (sg : UInt8) (sm : Bool) (p : UInt8 → Bool) (w : World) (hs : s.size ≤ 1000000) (hm : m.size ≤ 1000000)
    (hp : ∀ b, p b = (((lowC b || capC b) || (digC b || m.data.toList.contains b)) && !(capC b && sm))) :
    Calls Try.prog 34 #[.string s, .int .u8 (sg.toNat : Int), .bool sm, .string m] w fun e w' => e = .returned (.bool (onL sg p s.data.toList)) ∧ w = w' := by
  have ci := refColon s w hs
  have hz := Lib.size_eq s
  by_cases h : 255 < s.size
  · have : onL sg p s.data.toList = false := by unfold onL; rw [decide_eq_false (by omega), Bool.false_and]
    rw [this]
    exact named_no s m sg sm w _ (.inl h) ci
  have h255 : s.size ≤ 255 := by omega
  have e1 : onL sg p s.data.toList = (hasC s.data.toList && (([sg].isPrefixOf (pre s.data.toList) && onlyL p ((pre s.data.toList).drop 1)) && srvL (post s.data.toList))) := by
    unfold onL; rw [decide_eq_true (by omega), Bool.true_and]
  rw [e1]
  cases hh : hasC s.data.toList with
  | false =>
    rw [Bool.false_and]
    refine named_no s m sg sm w _ (.inr (.inl ⟨h255, ?_⟩)) ci
    simp [colI, hh]
  | true =>
    rw [Bool.true_and]
    obtain ⟨i, hi, hlen, hil, -, e2⟩ := parts_at s hh
    rw [hi] at ci
    by_cases h2 : i < 2
    · have : onlyL p ((pre s.data.toList).drop 1) = false := by
        have : (pre s.data.toList).drop 1 = [] := List.drop_eq_nil_of_le (by omega)
        rw [this]; rfl
      rw [this, Bool.and_false, Bool.false_and]
      exact named_no s m sg sm w _ (.inr (.inl ⟨h255, by omega⟩)) ci
    · have h0 : 0 < s.size := by omega
      have hpre := pre_at s 0 (by omega) h0
      rw [List.drop_zero] at hpre
      have cs := refServer (s.extract (i + 1) s.size) w (by rw [e2, str_size]; omega)
      rw [show (s.extract (i + 1) s.size).data.toList = post s.data.toList by rw [e2, str_data]] at cs
      by_cases hg : s[0] = sg
      · have hpx : [sg].isPrefixOf (pre s.data.toList) = true := by rw [hpre, hg]; simp [List.isPrefixOf]
        rw [hpx, Bool.true_and]
        cases hsv : srvL (post s.data.toList) with
        | false =>
          rw [Bool.and_false]
          rw [hsv] at cs
          exact named_no s m sg sm w _ (.inr (.inr ⟨h255, i, rfl, by omega, by omega, h0, .inr ⟨hg, cs⟩⟩)) ci
        | true =>
          rw [Bool.and_true]
          rw [hsv] at cs
          have hne : ((pre s.data.toList).drop 1).isEmpty = false := by
            cases hc : (pre s.data.toList).drop 1 with
            | nil => have := congrArg List.length hc; simp at this; omega
            | cons x l => rfl
          have : onlyL p ((pre s.data.toList).drop 1) = ((pre s.data.toList).drop 1).all p := by
            unfold onlyL
            rw [hne, Bool.not_false, Bool.and_true]
          rw [this]
          exact named_loop s m sg sm p w h255 hm hp i (by omega) (by omega) hil h0 hg ci cs
      · have hpx : [sg].isPrefixOf (pre s.data.toList) = false := by
          rw [hpre]
          simp [List.isPrefixOf]
          exact fun e => hg e.symm
        rw [hpx, Bool.false_and, Bool.false_and]
        exact named_no s m sg sm w _ (.inr (.inr ⟨h255, i, rfl, by omega, by omega, h0, .inl hg⟩)) ci

theorem user_spec (b : UInt8) : userC b = (((lowC b || capC b) || (digC b || [46, 95, 61, 45, 47, 43].contains b)) && !(capC b && true)) := by
  have := all_bytes (p := fun b => decide (userC b = (((lowC b || capC b) || (digC b || [46, 95, 61, 45, 47, 43].contains b)) && !(capC b && true)))) (by decide +kernel) b
  simpa using this
theorem room_spec (b : UInt8) : roomC b = (((lowC b || capC b) || (digC b || [46, 95, 45].contains b)) && !(capC b && false)) := by
  have := all_bytes (p := fun b => decide (roomC b = (((lowC b || capC b) || (digC b || [46, 95, 45].contains b)) && !(capC b && false)))) (by decide +kernel) b
  simpa using this

theorem refUser (s : ByteArray) (w : World) (hs : s.size ≤ 1000000) :
    Calls Try.prog 16 #[.string s] w fun e w' => e = .returned (.bool (userL s.data.toList)) ∧ w = w' := by
  have C : Hid (Calls Try.prog 34 #[.string s, .int .u8 64, .bool true, .string ⟨#[46, 95, 61, 45, 47, 43]⟩] w fun e w' => e = .returned (.bool (userL s.data.toList)) ∧ w = w') :=
    Lib.hid (refNamed s ⟨#[46, 95, 61, 45, 47, 43]⟩ 64 true userC w hs (by decide) user_spec)
  generalize userL s.data.toList = q at C ⊢
  go_enter Try.func16, Try.ntmps16
  go_wp2_with (go_at_call 34; refine C.out.mono ?_; rintro e w' ⟨rfl, rfl⟩)
  go_ret
  exact ⟨rfl, rfl⟩

theorem refRoom (s : ByteArray) (w : World) (hs : s.size ≤ 1000000) :
    Calls Try.prog 18 #[.string s] w fun e w' => e = .returned (.bool (roomL s.data.toList)) ∧ w = w' := by
  have C : Hid (Calls Try.prog 34 #[.string s, .int .u8 33, .bool false, .string ⟨#[46, 95, 45]⟩] w fun e w' => e = .returned (.bool (roomL s.data.toList)) ∧ w = w') :=
    Lib.hid (refNamed s ⟨#[46, 95, 45]⟩ 33 false roomC w hs (by decide) room_spec)
  generalize roomL s.data.toList = q at C ⊢
  go_enter Try.func18, Try.ntmps18
  go_wp2_with (go_at_call 34; refine C.out.mono ?_; rintro e w' ⟨rfl, rfl⟩)
  go_ret
  exact ⟨rfl, rfl⟩

set_option maxHeartbeats 1000000 in
theorem refKind_core (s : ByteArray) (u r v k : Bool) (w : World)
    (cu : Calls Try.prog 16 #[.string s] w fun e w' => e = .returned (.bool u) ∧ w = w')
    (cr : Calls Try.prog 18 #[.string s] w fun e w' => e = .returned (.bool r) ∧ w = w')
    (ce : Calls Try.prog 20 #[.string s] w fun e w' => e = .returned (.bool v) ∧ w = w')
    (cs : Calls Try.prog 14 #[.string s] w fun e w' => e = .returned (.bool k) ∧ w = w') :
    Calls Try.prog 21 #[.string s] w fun e w' => e = .returned (.int .i64 (kindB u r v k)) ∧ w = w' := by
  have CU := Lib.hid cu
  have CR := Lib.hid cr
  have CE := Lib.hid ce
  have CS := Lib.hid cs
  clear cu cr ce cs
  cases u <;> cases r <;> cases v <;> cases k
  all_goals
    go_enter Try.func21, Try.ntmps21
    go_wp2_with (first
      | (go_at_call 16; refine CU.out.mono ?_; rintro e w' ⟨rfl, rfl⟩)
      | (go_at_call 18; refine CR.out.mono ?_; rintro e w' ⟨rfl, rfl⟩)
      | (go_at_call 20; refine CE.out.mono ?_; rintro e w' ⟨rfl, rfl⟩)
      | (go_at_call 14; refine CS.out.mono ?_; rintro e w' ⟨rfl, rfl⟩))
    go_ret
    exact ⟨rfl, rfl⟩
theorem refKind (s : ByteArray) (w : World) (hs : s.size ≤ 1000000) :
    Calls Try.prog 21 #[.string s] w fun e w' => e = .returned (.int .i64 (kindL s.data.toList)) ∧ w = w' :=
  refKind_core s _ _ _ _ w (refUser s w hs) (refRoom s w hs) (refEvent s w hs) (refServer s w hs)

theorem lowerC_up {c : UInt8} (h0 : 65 ≤ c.toNat) (h1 : c.toNat ≤ 90) : ((lowerC c).toNat : Int) = (c.toNat : Int) + 32 := by
  have := lowerC_hi h0 h1
  omega

set_option maxHeartbeats 2000000 in
theorem refLower (s : ByteArray) (w : World) (hs : s.size ≤ 1000000) :
    Calls Try.prog 22 #[.string s] w fun e w' => e = .returned (.string (str (lowerL s.data.toList))) ∧ Below w.heap.size w w' := by
  have hconv := run_bytes_of_string (P := Try.prog) w 9 31 5 s Try.underlying9 Try.underlying31 Try.underlying5
  obtain ⟨cap, hcap⟩ : ∃ cap, cap = grownCap w s.size 0 5 := ⟨_, rfl⟩
  rw [← hcap] at hconv
  clear hcap
  obtain ⟨W, hW⟩ : ∃ W, W = (w.drew.alloc (.cells (bytesRow s cap) 5 ((bytesRow s cap).size, (bytesRow s cap).size + 1))) := ⟨_, rfl⟩
  have hlow : LowCells W w.heap.size s 0 := by
    intro j hj
    have hb : j < (bytesRow s cap).size := by
      unfold bytesRow
      simp
      have : s.data.size = s.size := rfl
      omega
    subst hW
    refine ⟨?_, ?_⟩
    · have := World.cell?_alloc_mark w.drew (bytesRow s cap) 5 ((bytesRow s cap).size, (bytesRow s cap).size + 1) j
      rw [show w.drew.heap.size = w.heap.size from rfl] at this
      rw [this, bytesRow_at s cap j hj]
      rfl
    · have := World.frozen?_alloc_mark w.drew (bytesRow s cap) 5 (bytesRow s cap).size ((bytesRow s cap).size + 1) j
      rw [show w.drew.heap.size = w.heap.size from rfl] at this
      rw [this]
      simp
      omega
  have hbel : Below w.heap.size w W := by
    subst hW
    exact (Below.refl _ w).drew.alloc (Nat.le_refl _) _
  rw [← hW] at hconv
  clear hW
  have HL := Lib.hid hlow
  have HB := Lib.hid hbel
  clear hlow hbel
  go_enter Try.func22, Try.ntmps22
  go_wp2
  go_loopg [4] s.size (fun gk s4 wr => ∃ k : Nat, k + gk = s.size ∧ s4 = .int .i64 k ∧ Hid (LowCells wr w.heap.size s k) ∧ Hid (Below w.heap.size w wr))
  case atStart => exact ⟨0, by omega, rfl, HL, HB⟩
  case round =>
    obtain ⟨k, hkg, rfl, HI, HW⟩ := hrel
    cases gk with
    | zero =>
      have hkz : ¬ ((k : Int) < (s.size : Int)) := by omega
      have hback : (convert 31 9 (.slice (some ⟨w.heap.size, 0, none⟩) s.size cap)).run Try.prog wr = .ok (.string (str (lowerL s.data.toList))) wr := by
        have hl : (lowerL s.data.toList).length = s.size := by rw [low_len, Lib.size_eq]
        have := run_convert_bytes_back (P := Try.prog) wr 31 9 5 ⟨w.heap.size, 0, none⟩ cap (lowerL s.data.toList) Try.underlying31 Try.underlying5 Try.underlying9 (fun j hj => by
          have hj' : j < s.size := by omega
          have := (HI.out j hj').1
          rw [if_pos (by omega)] at this
          have ea : (⟨w.heap.size, 0, none⟩ : Addr).add j = ⟨w.heap.size, j, none⟩ := by unfold Addr.add; split <;> simp_all
          rw [ea, this]
          have : (lowerL s.data.toList)[j] = lowerC s[j] := by simp [lowerL]; rfl
          rw [this])
        rw [hl] at this
        exact this
      go_wp2
      go_ret
      exact ⟨rfl, HW.out⟩
    | succ g' =>
      have hlt : k < s.size := by omega
      have hc0 := (HI.out k hlt).1
      rw [if_neg (by omega)] at hc0
      have hf0 := (HI.out k hlt).2
      have hu := (s[k]'hlt).toNat_lt
      by_cases h1 : 65 ≤ (s[k]'hlt).toNat <;> by_cases h2 : (s[k]'hlt).toNat ≤ 90
      all_goals
        have d1 : decide ((65 : Int) ≤ ((s[k]'hlt).toNat : Int)) = decide (65 ≤ (s[k]'hlt).toNat) := by simp only [decide_eq_decide]; omega
        have d2 : decide (((s[k]'hlt).toNat : Int) ≤ 90) = decide ((s[k]'hlt).toNat ≤ 90) := by simp only [decide_eq_decide]; omega
        first | rw [decide_eq_true h1] at d1 | rw [decide_eq_false h1] at d1
        first | rw [decide_eq_true h2] at d2 | rw [decide_eq_false h2] at d2
      · have HS : Hid (LowCells (wr.setCell ⟨w.heap.size, k, none⟩ (.int .u8 (((s[k]'hlt).toNat : Int) + 32))) w.heap.size s (k + 1)) := Lib.hid (by rw [← lowerC_up h1 h2]; exact HI.out.step hlt)
        go_wp2
        go_roundg g'
        case measure => omega
        case rel => exact ⟨k + 1, by omega, by go_num, HS, Lib.hid (HW.out.setCell (Nat.le_refl _) _)⟩
      all_goals
        have HS : Hid (LowCells wr w.heap.size s (k + 1)) := Lib.hid (HI.out.stay hlt (lowerC_lo (by omega)))
        go_wp2
        go_roundg g'
        case measure => omega
        case rel => exact ⟨k + 1, by omega, by go_num, HS, HW⟩

set_option maxHeartbeats 1000000 in
theorem refServerOf_core (s t r : ByteArray) (u : Bool) (i : Nat) (w : World) (hs : s.size ≤ 1000000) (hi : u = true → i + 1 ≤ s.size) (ht : u = true → s.extract (i + 1) s.size = t)
    (cu : Calls Try.prog 16 #[.string s] w fun e w' => e = .returned (.bool u) ∧ w = w')
    (cc : u = true → Calls Try.prog 29 #[.string s] w fun e w' => e = .returned (.int .i64 (i : Int)) ∧ w = w')
    (cl : Calls Try.prog 22 #[.string t] w fun e w' => e = .returned (.string r) ∧ Below w.heap.size w w') :
    Calls Try.prog 13 #[.string s] w fun e w' => e = .returned (.tuple #[.string (if u then r else ⟨#[]⟩), .bool u]) ∧ Below w.heap.size w w' := by
  have CU := Lib.hid cu
  cases u with
  | false =>
    rw [if_neg (by decide)]
    clear hi cc cl ht cu
    go_enter Try.func13, Try.ntmps13
    go_wp2_with (go_at_call 16; refine CU.out.mono ?_; rintro e w1 ⟨rfl, rfl⟩)
    go_ret2
    exact ⟨rfl, Below.refl _ _⟩
  | true =>
    rw [if_pos rfl]
    have hi' := hi rfl
    rw [← ht rfl] at cl
    have CC := Lib.hid (cc rfl)
    have CL := Lib.hid cl
    clear cu cc cl ht
    have k3 : (0 : Int) ≤ (i : Int) + 1 := by omega
    have k4 : (i : Int) + 1 ≤ (s.size : Int) := by omega
    clear hi
    go_enter Try.func13, Try.ntmps13
    go_wp2_with (go_at_call 16; refine CU.out.mono ?_; rintro e w1 ⟨rfl, rfl⟩)
    refine CC.out.mono ?_
    rintro e w1 ⟨rfl, rfl⟩
    go_wp2_with fail
    refine CL.out.mono ?_
    rintro e w3 ⟨rfl, b3⟩
    go_wp2
    go_ret2
    exact ⟨rfl, b3⟩

theorem refServerOf (s : ByteArray) (w : World) (hs : s.size ≤ 1000000) :
    Calls Try.prog 13 #[.string s] w fun e w' => e = .returned (.tuple #[.string (str (srvOf s.data.toList)), .bool (userL s.data.toList)]) ∧ Below w.heap.size w w' := by
  have e : str (srvOf s.data.toList) = (if userL s.data.toList then str (lowerL (post s.data.toList)) else ⟨#[]⟩) := by
    unfold srvOf
    cases userL s.data.toList <;> rfl
  rw [e]
  cases hu : userL s.data.toList with
  | false =>
    have cu := refUser s w hs
    rw [hu] at cu
    have cl := refLower (str (post s.data.toList)) w (by rw [str_size]; have := post_le s.data.toList; have := Lib.size_eq s; omega)
    rw [str_data] at cl
    exact refServerOf_core s _ _ false s.size w hs (fun h => by cases h) (fun h => by cases h) cu (fun h => by cases h) cl
  | true =>
    have cu := refUser s w hs
    rw [hu] at cu
    obtain ⟨i, hi, hlen, -, -, e2⟩ := parts_at s (userL_post hu)
    have cc := refColon s w hs
    rw [hi] at cc
    have cl := refLower (str (post s.data.toList)) w (by rw [str_size]; omega)
    rw [str_data] at cl
    exact refServerOf_core s _ _ true i w hs (fun _ => by omega) (fun _ => e2) cu (fun _ => cc) cl

/-- A contract's call, told from an earlier world on. -/
theorem ca_onto {f : Nat} {args : Array Value} {v : Ending} {w0 : World} (h : ∀ w, Calls Try.prog f args w fun e w' => e = v ∧ Below w.heap.size w w') :
    ∀ w1, Below w0.heap.size w0 w1 → Calls Try.prog f args w1 fun e w' => e = v ∧ Below w0.heap.size w0 w' := fun w1 hb => (h w1).mono fun _ _ ⟨he, b⟩ => ⟨he, hb.trans (b.mono hb.size)⟩
theorem ca_same {f : Nat} {args : Array Value} {v : Ending} {w0 : World} (h : ∀ w, Calls Try.prog f args w fun e w' => e = v ∧ w = w') :
    ∀ w1, Below w0.heap.size w0 w1 → Calls Try.prog f args w1 fun e w' => e = v ∧ Below w0.heap.size w0 w' := fun w1 hb => (h w1).mono fun _ _ ⟨he, b⟩ => ⟨he, b ▸ hb⟩

set_option maxHeartbeats 4000000 in
theorem calls_core (s r lo : ByteArray) (sv u rm ev : Bool) (kl : Int) (w : World) (hs : s.size ≤ 600)
    (c12 : ∀ w, Calls Try.prog 12 #[.string s] w fun e w' => e = .returned (.tuple #[.string r, .bool u]) ∧ Below w.heap.size w w')
    (c13 : ∀ w, Calls Try.prog 13 #[.string s] w fun e w' => e = .returned (.tuple #[.string r, .bool u]) ∧ Below w.heap.size w w')
    (c10 : ∀ w, Calls Try.prog 10 #[.string s] w fun e w' => e = .returned (.bool sv) ∧ Below w.heap.size w w')
    (c14 : ∀ w, Calls Try.prog 14 #[.string s] w fun e w' => e = .returned (.bool sv) ∧ w = w')
    (c15 : ∀ w, Calls Try.prog 15 #[.string s] w fun e w' => e = .returned (.bool u) ∧ Below w.heap.size w w')
    (c16 : ∀ w, Calls Try.prog 16 #[.string s] w fun e w' => e = .returned (.bool u) ∧ w = w')
    (c17 : ∀ w, Calls Try.prog 17 #[.string s] w fun e w' => e = .returned (.bool rm) ∧ Below w.heap.size w w')
    (c18 : ∀ w, Calls Try.prog 18 #[.string s] w fun e w' => e = .returned (.bool rm) ∧ w = w')
    (c19 : ∀ w, Calls Try.prog 19 #[.string s] w fun e w' => e = .returned (.bool ev) ∧ Below w.heap.size w w')
    (c20 : ∀ w, Calls Try.prog 20 #[.string s] w fun e w' => e = .returned (.bool ev) ∧ w = w')
    (c9 : ∀ w, Calls Try.prog 9 #[.string s] w fun e w' => e = .returned (.int .i64 kl) ∧ Below w.heap.size w w')
    (c21 : ∀ w, Calls Try.prog 21 #[.string s] w fun e w' => e = .returned (.int .i64 kl) ∧ w = w')
    (c11 : ∀ w, Calls Try.prog 11 #[.string s] w fun e w' => e = .returned (.string lo) ∧ Below w.heap.size w w')
    (c22 : ∀ w, Calls Try.prog 22 #[.string s] w fun e w' => e = .returned (.string lo) ∧ Below w.heap.size w w') :
    Calls Try.prog 4 #[.string s] w fun e w' => e = .returned (.bool true) ∧ Below w.heap.size w w' := by
  have C0 := Lib.hid (lives_any w)
  have C12 := Lib.hid (ca_onto (w0 := w) c12)
  have C13 := Lib.hid (ca_onto (w0 := w) c13)
  have C10 := Lib.hid (ca_onto (w0 := w) c10)
  have C14 := Lib.hid (ca_same (w0 := w) c14)
  have C15 := Lib.hid (ca_onto (w0 := w) c15)
  have C16 := Lib.hid (ca_same (w0 := w) c16)
  have C17 := Lib.hid (ca_onto (w0 := w) c17)
  have C18 := Lib.hid (ca_same (w0 := w) c18)
  have C19 := Lib.hid (ca_onto (w0 := w) c19)
  have C20 := Lib.hid (ca_same (w0 := w) c20)
  have C9 := Lib.hid (ca_onto (w0 := w) c9)
  have C21 := Lib.hid (ca_same (w0 := w) c21)
  have C11 := Lib.hid (ca_onto (w0 := w) c11)
  have C22 := Lib.hid (ca_onto (w0 := w) c22)
  clear c12 c13 c10 c14 c15 c16 c17 c18 c19 c20 c9 c21 c11 c22
  have g1 : decide ((600 : Int) < (s.size : Int)) = false := decide_eq_false (by omega)
  go_enter Try.func4, Try.ntmps4
  go_wp2_with (first
    | (go_at_call 8; refine C0.out.mono ?_; rintro e w' ⟨rfl, b⟩)
    | (go_at_call 12; refine (C12.out _ ?_).mono ?_; assumption; rintro e w' ⟨rfl, b⟩)
    | (go_at_call 13; refine (C13.out _ ?_).mono ?_; assumption; rintro e w' ⟨rfl, b⟩)
    | (go_at_call 10; refine (C10.out _ ?_).mono ?_; assumption; rintro e w' ⟨rfl, b⟩)
    | (go_at_call 14; refine (C14.out _ ?_).mono ?_; assumption; rintro e w' ⟨rfl, b⟩)
    | (go_at_call 15; refine (C15.out _ ?_).mono ?_; assumption; rintro e w' ⟨rfl, b⟩)
    | (go_at_call 16; refine (C16.out _ ?_).mono ?_; assumption; rintro e w' ⟨rfl, b⟩)
    | (go_at_call 17; refine (C17.out _ ?_).mono ?_; assumption; rintro e w' ⟨rfl, b⟩)
    | (go_at_call 18; refine (C18.out _ ?_).mono ?_; assumption; rintro e w' ⟨rfl, b⟩)
    | (go_at_call 19; refine (C19.out _ ?_).mono ?_; assumption; rintro e w' ⟨rfl, b⟩)
    | (go_at_call 20; refine (C20.out _ ?_).mono ?_; assumption; rintro e w' ⟨rfl, b⟩)
    | (go_at_call 9; refine (C9.out _ ?_).mono ?_; assumption; rintro e w' ⟨rfl, b⟩)
    | (go_at_call 21; refine (C21.out _ ?_).mono ?_; assumption; rintro e w' ⟨rfl, b⟩)
    | (go_at_call 11; refine (C11.out _ ?_).mono ?_; assumption; rintro e w' ⟨rfl, b⟩)
    | (go_at_call 22; refine (C22.out _ ?_).mono ?_; assumption; rintro e w' ⟨rfl, b⟩))
  go_ret
  exact ⟨rfl, by assumption⟩

theorem calls_skip (s : ByteArray) (w : World) (hs : 600 < s.size) :
    Calls Try.prog 4 #[.string s] w fun e w' => e = .returned (.bool true) ∧ Below w.heap.size w w' := by
  have C0 := Lib.hid (lives_any w)
  have g1 : decide ((600 : Int) < (s.size : Int)) = true := decide_eq_true (by omega)
  clear hs
  go_enter Try.func4, Try.ntmps4
  go_wp2_with (go_at_call 8; refine C0.out.mono ?_; rintro e w1 ⟨rfl, b1⟩)
  go_ret
  exact ⟨rfl, b1⟩

/-- The law, for every input. -/
theorem calls_any (s : ByteArray) (w : World) :
    Calls Try.prog 4 #[.string s] w fun e w' => e = .returned (.bool true) ∧ Below w.heap.size w w' := by
  by_cases h : 600 < s.size
  · exact calls_skip s w h
  have hs : s.size ≤ 1000000 := by omega
  exact calls_core s _ _ _ _ _ _ _ w (by omega) (fun w => serverOf_any s w hs) (fun w => refServerOf s w hs) (fun w => server_any s w hs) (fun w => refServer s w hs) (fun w => user_any s w hs) (fun w => refUser s w hs)
    (fun w => room_any s w hs) (fun w => refRoom s w hs) (fun w => event_any s w hs) (fun w => refEvent s w hs) (fun w => kind_any s w hs) (fun w => refKind s w hs) (fun w => lower_any s w hs) (fun w => refLower s w hs)

open Go.ChangeShapes Go.WideShapes Go.ChangeAt
open Go.ChangeMaps (open_string shut_string)
theorem calls_own : ownKnob Try.prog.godebug = none := by kernel_rfl

set_option maxRecDepth 100000 in
theorem calls_lifted (os : Os) (started : os.Started) (H : Type) (enc : TypeId × Value → H) :
    ReturnsInHanded {} Try.checked os 4 .any (Rows.identCallsSpec.pre6 enc Try.prog Try.f4 Rows.identCallsRow.domain false) (Rows.identCallsSpec.post enc Try.prog Try.f4 false true false false) := by
  refine returnsInHanded_of_change (C := Try.checked) calls_own started (by kernel_rfl) Try.func4
    (ChangeSpec.witness6 (enc := enc) (C := Try.checked) false ⟨#[], #[.string ByteArray.empty], []⟩ 8 (by kernel_rfl) (by kernel_rfl) (by kernel_rfl) (by kernel_rfl)) ?_
  intro W base args ds gs before hval0 hW hcnd _
  have hval : ∀ (j : Nat) t v, Try.f4.params[j]? = some t → args[j]? = some v → Value.okWide Try.prog W .any base t v := hval0
  have hW' := hW
  obtain ⟨p, q, hA0, hV, rfl, hfz, hnd⟩ := hW
  have hA : DataW.TrodAll enc Try.prog W 0 (fun _ => true) true Try.f4.params.toList args.toList ds p := hA0
  rw [Try.params4] at hA hval
  obtain ⟨v0, vs0, d0, ds0, p0, q0, hargs, rfl, rfl, h0, r0⟩ := trodAll_cons hA
  obtain ⟨rfl, rfl, rfl⟩ := trodAll_nil r0
  obtain rfl : args = #[v0] := by cases args; simp_all
  obtain ⟨rfl, rfl⟩ := trodVars_none hV
  obtain ⟨a0, rfl, rfl, rfl, w0⟩ := open_string Try.underlying9 (hval 0 9 v0 rfl rfl) h0
  clear hA0 hval0
  simp only [List.append_nil] at hW'
  refine (calls_any a0 W).mono fun e W' ⟨he, bel⟩ => ?_
  subst he
  exact ⟨_, rfl, _, _, _, [], _, [], hW', trodAll_mk1 (shut_bool Try.underlying4 _), (trodAll_cons_mk (shut_string Try.underlying9 w0) trodAll_mk0), rfl, bel.frame _, fun h => by cases h⟩

/-- The statement. -/
theorem calls_said : Rows.IdentCallsSaid :=
  OpenClaim.holds_of_wide 4 Try.f4 rfl rfl rfl rfl rfl rfl rfl ⟨rfl, rfl, rfl, rfl, rfl⟩ rfl rfl rfl rfl rfl (by kernel_rfl) Try.func4 (by kernel_rfl)
    (of_decide_eq_true (by kernel_rfl)) (by unfold Func.isWrapper; first | (rw [if_pos (by decide +kernel)]; kernel_rfl) | (rw [if_neg (by decide +kernel)]; exact ⟨rfl, rfl⟩))
    (fun os started H enc _ => calls_lifted os started H enc)
#print axioms calls_said
end Go.Proofs.Ytemomaeecelofaa

