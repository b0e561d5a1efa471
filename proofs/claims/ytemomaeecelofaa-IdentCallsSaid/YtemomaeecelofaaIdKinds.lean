/-
  What is proved: what ident.User, Room, EventID, Kind, ServerOf return at any string of at most 1,000,000 bytes, as the functions on lists of bytes in IdMath; and that outlawlaw04.lives returns true. What lay in memory before stands as it stood.
-/
import Derived.Test.YtemomaeecelofaaIdServer
import Derived.Test.YtemomaeecelofaaIdLower
namespace Go.Proofs.Ytemomaeecelofaa
open Go.RowKit

theorem letters_stay (marks : ByteArray) (cap : Bool) (w1 : World) (a b : Nat) (ha : w1.cell? ⟨a, 0, none⟩ = some (.bool cap)) (hb : w1.cell? ⟨b, 0, none⟩ = some (.string marks)) (la : a < w1.heap.size) (lb : b < w1.heap.size) :
    ∀ w', Below w1.heap.size w1 w' → Tells 42 #[.pointer (some ⟨a, 0, none⟩), .pointer (some ⟨b, 0, none⟩)] (okC marks.data.toList cap) w' := fun w' h =>
  letters1 marks cap w' a b ((h.cell (p := ⟨a, 0, none⟩) la).trans ha) ((h.cell (p := ⟨b, 0, none⟩) lb).trans hb)

theorem user_any (s : ByteArray) (w : World) (hs : s.size ≤ 1000000) :
    Calls Try.prog 15 #[.string s] w fun e w' => e = .returned (.bool (userL s.data.toList)) ∧ Below w.heap.size w w' := by
  have C1 := Lib.hid (letters_any ⟨#[46, 95, 61, 45, 47, 43]⟩ false w)
  have C2 := Lib.hid fun a b w1 ha hb la lb => onServer_any s 64 userC 42 #[.pointer (some ⟨a, 0, none⟩), .pointer (some ⟨b, 0, none⟩)] w1 e42 (letters_stay ⟨#[46, 95, 61, 45, 47, 43]⟩ false w1 a b ha hb la lb) hs
  show Calls Try.prog _ _ w fun e w' => e = .returned (.bool (onL 64 userC s.data.toList)) ∧ Below w.heap.size w w'
  generalize onL 64 userC s.data.toList = R at C2 ⊢
  go_enter Try.func15, Try.ntmps15
  go_wp2_with (go_at_call 33; refine C1.out.mono ?_; rintro e w1 ⟨a, b, rfl, b1, ha, hb, la, lb⟩)
  refine (C2.out a b w1 ha hb la lb).mono ?_
  rintro e w2 ⟨rfl, b2⟩
  go_wp2
  go_ret
  exact ⟨rfl, b1.trans (b2.mono b1.size)⟩

theorem room_any (s : ByteArray) (w : World) (hs : s.size ≤ 1000000) :
    Calls Try.prog 17 #[.string s] w fun e w' => e = .returned (.bool (roomL s.data.toList)) ∧ Below w.heap.size w w' := by
  have C1 := Lib.hid (letters_any ⟨#[46, 95, 45]⟩ true w)
  have C2 := Lib.hid fun a b w1 ha hb la lb => onServer_any s 33 roomC 42 #[.pointer (some ⟨a, 0, none⟩), .pointer (some ⟨b, 0, none⟩)] w1 e42 (letters_stay ⟨#[46, 95, 45]⟩ true w1 a b ha hb la lb) hs
  show Calls Try.prog _ _ w fun e w' => e = .returned (.bool (onL 33 roomC s.data.toList)) ∧ Below w.heap.size w w'
  generalize onL 33 roomC s.data.toList = R at C2 ⊢
  go_enter Try.func17, Try.ntmps17
  go_wp2_with (go_at_call 33; refine C1.out.mono ?_; rintro e w1 ⟨a, b, rfl, b1, ha, hb, la, lb⟩)
  refine (C2.out a b w1 ha hb la lb).mono ?_
  rintro e w2 ⟨rfl, b2⟩
  go_wp2
  go_ret
  exact ⟨rfl, b1.trans (b2.mono b1.size)⟩

set_option maxHeartbeats 1000000 in
theorem event_core (s r : ByteArray) (hv ho : Bool) (w : World)
    (cx : Calls Try.prog 35 #[.string s, .string ⟨#[36]⟩] w fun e w' => e = .returned (.tuple #[.string r, .bool hv]) ∧ w' = w)
    (co : hv = true → ∀ a b w1, w1.cell? ⟨a, 0, none⟩ = some (.bool true) → w1.cell? ⟨b, 0, none⟩ = some (.string ⟨#[95, 45, 46, 126, 47]⟩) → Calls Try.prog 36 #[.string r, .func (.func 42) #[] #[.pointer (some ⟨a, 0, none⟩), .pointer (some ⟨b, 0, none⟩)]] w1 fun e w' => e = .returned (.bool ho) ∧ w1 = w') :
    Calls Try.prog 19 #[.string s] w fun e w' => e = .returned (.bool (decide (s.size ≤ 65) && (hv && ho))) ∧ Below w.heap.size w w' := by
  have C1 := Lib.hid (letters_any ⟨#[95, 45, 46, 126, 47]⟩ true w)
  have CX := Lib.hid cx
  have CO := Lib.hid co
  clear cx co
  by_cases h : s.size ≤ 65
  · have h5 : decide ((65 : Int) < (s.size : Int)) = false := by simp; omega
    rw [decide_eq_true h, Bool.true_and]
    clear h
    cases hv with
    | false =>
      clear CO
      go_enter Try.func19, Try.ntmps19
      go_wp2_with (go_at_call 35; refine CX.out.mono ?_; rintro e w1 ⟨rfl, rfl⟩)
      go_ret
      exact ⟨rfl, Below.refl _ _⟩
    | true =>
      replace CO := Lib.hid (CO.out rfl)
      go_enter Try.func19, Try.ntmps19
      go_wp2_with (go_at_call 35; refine CX.out.mono ?_; rintro e w1 ⟨rfl, rfl⟩)
      refine C1.out.mono ?_
      rintro e w2 ⟨a, b, rfl, b1, ha, hb, _, _⟩
      go_wp2_with fail
      refine (CO.out a b w2 ha hb).mono ?_
      rintro e w3 ⟨rfl, rfl⟩
      go_wp2
      go_ret
      exact ⟨rfl, b1⟩
  · have h5 : decide ((65 : Int) < (s.size : Int)) = true := by simp; omega
    rw [decide_eq_false h, Bool.false_and]
    clear h C1 CX CO
    go_enter Try.func19, Try.ntmps19
    go_wp2
    go_ret
    exact ⟨rfl, Below.refl _ _⟩

theorem event_any (s : ByteArray) (w : World) (hs : s.size ≤ 1000000) :
    Calls Try.prog 19 #[.string s] w fun e w' => e = .returned (.bool (evL s.data.toList)) ∧ Below w.heap.size w w' := by
  have hsz := Lib.size_eq s
  have e : evL s.data.toList = (decide (s.size ≤ 65) && ([36].isPrefixOf s.data.toList && onlyL evC (s.data.toList.drop 1))) := by rw [hsz]; rfl
  rw [e]
  refine event_core s (str (Lib.trimPrefix s.data.toList [36])) _ _ w (Try.strings_CutPrefix s ⟨#[36]⟩ w) (fun hv a b w1 ha hb => ?_)
  rw [trim_one 36 _ hv]
  have C := hasOnly_any (str (s.data.toList.drop 1)) 42 #[.pointer (some ⟨a, 0, none⟩), .pointer (some ⟨b, 0, none⟩)] _ w1 e42 (letters1 ⟨#[95, 45, 46, 126, 47]⟩ true w1 a b ha hb) (by rw [str_size, List.length_drop]; omega)
  rw [str_data] at C
  exact C

def kindB (u r e s : Bool) : Nat := if u then 1 else if r then 2 else if e then 3 else if s then 4 else 0

set_option maxHeartbeats 1000000 in
theorem kind_core (s : ByteArray) (u r v k : Bool) (w : World)
    (cu : Calls Try.prog 15 #[.string s] w fun e w' => e = .returned (.bool u) ∧ Below w.heap.size w w')
    (cr : ∀ w, Calls Try.prog 17 #[.string s] w fun e w' => e = .returned (.bool r) ∧ Below w.heap.size w w')
    (ce : ∀ w, Calls Try.prog 19 #[.string s] w fun e w' => e = .returned (.bool v) ∧ Below w.heap.size w w')
    (cs : ∀ w, Calls Try.prog 10 #[.string s] w fun e w' => e = .returned (.bool k) ∧ Below w.heap.size w w') :
    Calls Try.prog 9 #[.string s] w fun e w' => e = .returned (.int .i64 (kindB u r v k)) ∧ Below w.heap.size w w' := by
  have CU := Lib.hid cu
  have CR := Lib.hid cr
  have CE := Lib.hid ce
  have CS := Lib.hid cs
  clear cu cr ce cs
  cases u with
  | true =>
    go_enter Try.func9, Try.ntmps9
    go_wp2_with (go_at_call 15; refine CU.out.mono ?_; rintro e w1 ⟨rfl, b1⟩)
    go_ret
    exact ⟨rfl, b1⟩
  | false =>
    cases r with
    | true =>
      go_enter Try.func9, Try.ntmps9
      go_wp2_with (go_at_call 15; refine CU.out.mono ?_; rintro e w1 ⟨rfl, b1⟩)
      refine (CR.out w1).mono ?_
      rintro e w2 ⟨rfl, b2⟩
      go_wp2
      go_ret
      exact ⟨rfl, b1.trans (b2.mono b1.size)⟩
    | false =>
      cases v with
      | true =>
        go_enter Try.func9, Try.ntmps9
        go_wp2_with (go_at_call 15; refine CU.out.mono ?_; rintro e w1 ⟨rfl, b1⟩)
        refine (CR.out w1).mono ?_
        rintro e w2 ⟨rfl, b2⟩
        replace b2 := b1.trans (b2.mono b1.size)
        go_wp2_with fail
        refine (CE.out w2).mono ?_
        rintro e w3 ⟨rfl, b3⟩
        go_wp2
        go_ret
        exact ⟨rfl, b2.trans (b3.mono b2.size)⟩
      | false =>
        cases k
        all_goals
          go_enter Try.func9, Try.ntmps9
          go_wp2_with (go_at_call 15; refine CU.out.mono ?_; rintro e w1 ⟨rfl, b1⟩)
          refine (CR.out w1).mono ?_
          rintro e w2 ⟨rfl, b2⟩
          replace b2 := b1.trans (b2.mono b1.size)
          go_wp2_with fail
          refine (CE.out w2).mono ?_
          rintro e w3 ⟨rfl, b3⟩
          replace b3 := b2.trans (b3.mono b2.size)
          go_wp2_with fail
          refine (CS.out w3).mono ?_
          rintro e w4 ⟨rfl, b4⟩
          go_wp2
          go_ret
          exact ⟨rfl, b3.trans (b4.mono b3.size)⟩

theorem kind_any (s : ByteArray) (w : World) (hs : s.size ≤ 1000000) :
    Calls Try.prog 9 #[.string s] w fun e w' => e = .returned (.int .i64 (kindL s.data.toList)) ∧ Below w.heap.size w w' :=
  kind_core s _ _ _ _ w (user_any s w hs) (fun w => room_any s w hs) (fun w => event_any s w hs) (fun w => server_any s w hs)

set_option maxHeartbeats 1000000 in
theorem serverOf_core (s a b r : ByteArray) (u hh : Bool) (w : World)
    (cu : Calls Try.prog 15 #[.string s] w fun e w' => e = .returned (.bool u) ∧ Below w.heap.size w w')
    (cc : ∀ w, Calls Try.prog 26 #[.string s, .string ⟨#[58]⟩] w fun e w' => e = .returned (.tuple #[.string a, .string b, .bool hh]) ∧ Below w.heap.size w w')
    (cl : ∀ w, Calls Try.prog 11 #[.string b] w fun e w' => e = .returned (.string r) ∧ Below w.heap.size w w') :
    Calls Try.prog 12 #[.string s] w fun e w' => e = .returned (.tuple #[.string (if u then r else ⟨#[]⟩), .bool u]) ∧ Below w.heap.size w w' := by
  have CU := Lib.hid cu
  have CC := Lib.hid cc
  have CL := Lib.hid cl
  clear cu cc cl
  cases u with
  | false =>
    rw [if_neg (by decide)]
    go_enter Try.func12, Try.ntmps12
    go_wp2_with (go_at_call 15; refine CU.out.mono ?_; rintro e w1 ⟨rfl, b1⟩)
    go_ret2
    exact ⟨rfl, b1⟩
  | true =>
    rw [if_pos rfl]
    go_enter Try.func12, Try.ntmps12
    go_wp2_with (go_at_call 15; refine CU.out.mono ?_; rintro e w1 ⟨rfl, b1⟩)
    refine (CC.out w1).mono ?_
    rintro e w2 ⟨rfl, b2⟩
    replace b2 := b1.trans (b2.mono b1.size)
    go_wp2_with fail
    refine (CL.out w2).mono ?_
    rintro e w3 ⟨rfl, b3⟩
    go_wp2
    go_ret2
    exact ⟨rfl, b2.trans (b3.mono b2.size)⟩

theorem serverOf_any (s : ByteArray) (w : World) (hs : s.size ≤ 1000000) :
    Calls Try.prog 12 #[.string s] w fun e w' => e = .returned (.tuple #[.string (str (srvOf s.data.toList)), .bool (userL s.data.toList)]) ∧ Below w.heap.size w w' := by
  have hsz := Lib.size_eq s
  have hp2 := post_le s.data.toList
  have e : str (srvOf s.data.toList) = (if userL s.data.toList then str (lowerL (post s.data.toList)) else ⟨#[]⟩) := by
    unfold srvOf
    cases userL s.data.toList <;> rfl
  rw [e]
  refine serverOf_core s _ _ _ _ _ w (user_any s w hs) (fun w => cut_any s w hs) (fun w => ?_)
  have C := lower_any (str (post s.data.toList)) w (by rw [str_size]; omega)
  rw [str_data] at C
  exact C

theorem lives_any (w : World) :
    Calls Try.prog 8 #[] w fun e w' => e = .returned (.bool true) ∧ Below w.heap.size w w' := by
  have C1 := serverOf_any ⟨#[64, 97, 58, 66, 46, 111, 114, 103]⟩ w (by decide)
  have E1 : Hid (str (srvOf (⟨#[64, 97, 58, 66, 46, 111, 114, 103]⟩ : ByteArray).data.toList) = ⟨#[98, 46, 111, 114, 103]⟩) := Lib.hid (by decide +kernel)
  have E2 : Hid (userL (⟨#[64, 97, 58, 66, 46, 111, 114, 103]⟩ : ByteArray).data.toList = true) := Lib.hid (by decide +kernel)
  rw [E1.out, E2.out] at C1
  have C1 := Lib.hid C1
  have C2 := fun w => kind_any ⟨#[33, 114, 58, 120, 58, 56, 48]⟩ w (by decide)
  have E3 : Hid (kindL (⟨#[33, 114, 58, 120, 58, 56, 48]⟩ : ByteArray).data.toList = 2) := Lib.hid (by decide +kernel)
  rw [E3.out] at C2
  have C2 := Lib.hid C2
  clear E1 E2 E3
  go_enter Try.func8, Try.ntmps8
  go_wp2_with (go_at_call 12; refine C1.out.mono ?_; rintro e w1 ⟨rfl, b1⟩)
  refine (C2.out w1).mono ?_
  rintro e w2 ⟨rfl, b2⟩
  go_wp2
  go_ret
  exact ⟨rfl, b1.trans (b2.mono b1.size)⟩
end Go.Proofs.Ytemomaeecelofaa
