/-
  What is proved: what ident.Server, isOnServer, User, Room, EventID, Kind return at any string of at most 1,000,000 bytes, as the functions on lists of bytes in IdMath. What lay in memory before stands as it stood. Conditions: those of the theorems.
-/
import Derived.Test.YtemomaeecelofaaIdCode
namespace Go.Proofs.Ytemomaeecelofaa
open Go.RowKit

theorem pre_le (l : List UInt8) : (pre l).length ≤ l.length := by
  unfold pre
  exact (List.takeWhile_prefix _).length_le
theorem post_le (l : List UInt8) : (post l).length ≤ l.length := by
  unfold post
  have := (List.dropWhile_suffix (l := l) (fun c => c != 58)).length_le
  simp
  omega

set_option maxHeartbeats 1000000 in
theorem server_any (s : ByteArray) (w : World) (hs : s.size ≤ 1000000) :
    Calls Try.prog 10 #[.string s] w fun e w' => e = .returned (.bool (srvL s.data.toList)) ∧ Below w.heap.size w w' := by
  have hsz := Lib.size_eq s
  have hp1 := pre_le s.data.toList
  have hp2 := post_le s.data.toList
  have CC := Lib.hid (cut_any s w hs)
  have CH := Lib.hid fun w1 => isHost_any (str (pre s.data.toList)) w1 (by rw [str_size]; omega)
  have CP := Lib.hid fun w1 => isPort_any (str (post s.data.toList)) w1 (by rw [str_size]; omega)
  have CS := Lib.hid fun w1 => isHost_any s w1 hs
  rw [str_data] at CH CP
  by_cases h : s.size ≤ 128
  · have h5 : decide ((128 : Int) < (s.size : Int)) = false := by simp; omega
    have HE : Hid (srvL s.data.toList = if hasC s.data.toList then hostL (pre s.data.toList) && portL (post s.data.toList) else hostL s.data.toList) := Lib.hid (by unfold srvL; rw [decide_eq_true (by omega), Bool.true_and])
    rw [HE.out]
    clear hsz hp1 hp2 HE
    cases hh : hasC s.data.toList with
    | false =>
      rw [hh] at CC
      go_enter Try.func10, Try.ntmps10
      go_wp2_with (go_at_call 26; refine CC.out.mono ?_; rintro e w1 ⟨rfl, b1⟩)
      refine (CS.out w1).mono ?_
      rintro e w2 ⟨rfl, b2⟩
      go_wp2
      go_ret
      exact ⟨rfl, b1.trans (b2.mono b1.size)⟩
    | true =>
      rw [hh] at CC
      cases hv : hostL (pre s.data.toList) with
      | false =>
        rw [hv] at CH
        go_enter Try.func10, Try.ntmps10
        go_wp2_with (go_at_call 26; refine CC.out.mono ?_; rintro e w1 ⟨rfl, b1⟩)
        refine (CH.out w1).mono ?_
        rintro e w2 ⟨rfl, b2⟩
        go_wp2
        go_ret
        exact ⟨rfl, b1.trans (b2.mono b1.size)⟩
      | true =>
        rw [hv] at CH
        go_enter Try.func10, Try.ntmps10
        go_wp2_with (go_at_call 26; refine CC.out.mono ?_; rintro e w1 ⟨rfl, b1⟩)
        refine (CH.out w1).mono ?_
        rintro e w2 ⟨rfl, b2⟩
        go_wp2_with fail
        refine (CP.out w2).mono ?_
        rintro e w3 ⟨rfl, rfl⟩
        go_wp2
        go_ret
        exact ⟨rfl, b1.trans (b2.mono b1.size)⟩
  · have h5 : decide ((128 : Int) < (s.size : Int)) = true := by simp; omega
    have HE : Hid (srvL s.data.toList = false) := Lib.hid (by unfold srvL; rw [decide_eq_false (by omega), Bool.false_and])
    rw [HE.out]
    clear hsz hp1 hp2 HE CC CH CP CS
    go_enter Try.func10, Try.ntmps10
    go_wp2
    go_ret
    exact ⟨rfl, Below.refl _ _⟩

theorem trim_one (g : UInt8) (l : List UInt8) (h : [g].isPrefixOf l = true) : Lib.trimPrefix l [g] = l.drop 1 := by
  simp [Lib.trimPrefix, Lib.hasPrefix, h]

set_option maxHeartbeats 1000000 in
theorem onServer_core (s a b r sg : ByteArray) (hh hv ho hw : Bool) (g : Nat) (lb : Array Value) (w : World)
    (cc : Calls Try.prog 26 #[.string s, .string ⟨#[58]⟩] w fun e w' => e = .returned (.tuple #[.string a, .string b, .bool hh]) ∧ Below w.heap.size w w')
    (cx : ∀ w1, Calls Try.prog 35 #[.string a, .string sg] w1 fun e w' => e = .returned (.tuple #[.string r, .bool hv]) ∧ w' = w1)
    (co : hv = true → ∀ w1, Below w.heap.size w w1 → Calls Try.prog 36 #[.string r, .func (.func g) #[] lb] w1 fun e w' => e = .returned (.bool ho) ∧ w1 = w')
    (cs : ∀ w1, Calls Try.prog 10 #[.string b] w1 fun e w' => e = .returned (.bool hw) ∧ Below w1.heap.size w1 w') :
    Calls Try.prog 32 #[.string s, .string sg, .func (.func g) #[] lb] w fun e w' => e = .returned (.bool (decide (s.size ≤ 255) && (hh && ((hv && ho) && hw)))) ∧ Below w.heap.size w w' := by
  have CC := Lib.hid cc
  have CX := Lib.hid cx
  have CO := Lib.hid co
  have CS := Lib.hid cs
  clear cc cx co cs
  by_cases h : s.size ≤ 255
  · have h5 : decide ((255 : Int) < (s.size : Int)) = false := by simp; omega
    rw [decide_eq_true h, Bool.true_and]
    clear h
    cases hh with
    | false =>
      go_enter Try.func32, Try.ntmps32
      go_wp2_with (go_at_call 26; refine CC.out.mono ?_; rintro e w1 ⟨rfl, b1⟩)
      go_ret
      exact ⟨rfl, b1⟩
    | true =>
      cases hv with
      | false =>
        clear CO
        go_enter Try.func32, Try.ntmps32
        go_wp2_with (go_at_call 26; refine CC.out.mono ?_; rintro e w1 ⟨rfl, b1⟩)
        refine (CX.out w1).mono ?_
        rintro e w2 ⟨rfl, rfl⟩
        go_wp2
        go_ret
        exact ⟨rfl, b1⟩
      | true =>
        replace CO := Lib.hid (CO.out rfl)
        cases ho with
        | false =>
          go_enter Try.func32, Try.ntmps32
          go_wp2_with (go_at_call 26; refine CC.out.mono ?_; rintro e w1 ⟨rfl, b1⟩)
          refine (CX.out w1).mono ?_
          rintro e w2 ⟨rfl, rfl⟩
          go_wp2_with fail
          refine (CO.out w2 b1).mono ?_
          rintro e w3 ⟨rfl, rfl⟩
          go_wp2
          go_ret
          exact ⟨rfl, b1⟩
        | true =>
          go_enter Try.func32, Try.ntmps32
          go_wp2_with (go_at_call 26; refine CC.out.mono ?_; rintro e w1 ⟨rfl, b1⟩)
          refine (CX.out w1).mono ?_
          rintro e w2 ⟨rfl, rfl⟩
          go_wp2_with fail
          refine (CO.out w2 b1).mono ?_
          rintro e w3 ⟨rfl, rfl⟩
          go_wp2_with fail
          refine (CS.out w2).mono ?_
          rintro e w4 ⟨rfl, b4⟩
          go_wp2
          go_ret
          exact ⟨rfl, b1.trans (b4.mono b1.size)⟩
  · have h5 : decide ((255 : Int) < (s.size : Int)) = true := by simp; omega
    rw [decide_eq_false h, Bool.false_and]
    clear h CC CX CO CS
    go_enter Try.func32, Try.ntmps32
    go_wp2
    go_ret
    exact ⟨rfl, Below.refl _ _⟩

theorem onServer_any (s : ByteArray) (sign : UInt8) (p : UInt8 → Bool) (g : Nat) (lb : Array Value) (w : World) (eg : ∀ args w, (callFunc g args).run Try.prog w = .ok (.enter g args) w)
    (ht : ∀ w', Below w.heap.size w w' → Tells g lb p w') (hs : s.size ≤ 1000000) :
    Calls Try.prog 32 #[.string s, .string ⟨#[sign]⟩, .func (.func g) #[] lb] w fun e w' => e = .returned (.bool (onL sign p s.data.toList)) ∧ Below w.heap.size w w' := by
  have hsz := Lib.size_eq s
  have hp1 := pre_le s.data.toList
  have hp2 := post_le s.data.toList
  have e : onL sign p s.data.toList = (decide (s.size ≤ 255) && (hasC s.data.toList && (([sign].isPrefixOf (pre s.data.toList) && onlyL p ((pre s.data.toList).drop 1)) && srvL (post s.data.toList)))) := by rw [hsz]; rfl
  rw [e]
  refine onServer_core s (str (pre s.data.toList)) (str (post s.data.toList)) (str (Lib.trimPrefix (pre s.data.toList) [sign])) _ _ _ _ _ g lb w (cut_any s w hs) (fun w1 => ?_) (fun hv w1 hb => ?_) (fun w1 => ?_)
  · have C := Try.strings_CutPrefix (str (pre s.data.toList)) ⟨#[sign]⟩ w1
    rw [str_data] at C
    exact C
  · rw [trim_one sign _ hv]
    have C := hasOnly_any (str ((pre s.data.toList).drop 1)) g lb p w1 eg (ht w1 hb) (by rw [str_size, List.length_drop]; omega)
    rw [str_data] at C
    exact C
  · have C := server_any (str (post s.data.toList)) w1 (by rw [str_size]; omega)
    rw [str_data] at C
    exact C
end Go.Proofs.Ytemomaeecelofaa
