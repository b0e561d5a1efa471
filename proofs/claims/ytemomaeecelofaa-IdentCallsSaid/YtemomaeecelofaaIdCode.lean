/-
  What is proved: what the functions of package ident that check identifiers return: Server, User, Room, EventID, Kind, at any string of at most 2,000 bytes, as functions on lists of bytes (IdMath). What lay in memory before stands as it stood. Conditions: those of the theorems.
-/
import Derived.Test.YtemomaeecelofaaShelf
import Derived.Test.YtemomaeecelofaaIdMath
import Derived.WalkKit
import Derived.BigCall
import Derived.WalkSpells
import Derived.WalkLawsBesides
import Derived.Deep.LoopGhost
import Derived.Below
import Derived.Outline
import Derived.Lib.Hide
namespace Go.Proofs.Ytemomaeecelofaa
open Go.RowKit

/-- A list of bytes as a string. -/
def str (l : List UInt8) : ByteArray := ⟨l.toArray⟩
theorem str_data (l : List UInt8) : (str l).data.toList = l := by simp [str]
theorem str_size (l : List UInt8) : (str l).size = l.length := by rw [Lib.size_eq, str_data]
theorem str_of (s : ByteArray) : str s.data.toList = s := by cases s; simp [str]

theorem drop_at (s : ByteArray) (k : Nat) (h : k < s.size) : s.data.toList.drop k = s[k] :: s.data.toList.drop (k + 1) := by
  rw [List.drop_eq_getElem_cons (by simpa using h)]; rfl
theorem drop_end (s : ByteArray) (k : Nat) (h : s.size ≤ k) : s.data.toList.drop k = [] := List.drop_eq_nil_of_le (by simpa using h)

theorem index_has (l : List UInt8) (c : UInt8) : decide (0 ≤ Lib.indexByte l c) = l.contains c := by
  induction l with
  | nil => rfl
  | cons a l ih =>
    have hge := Lib.indexByte_ge l c
    unfold Lib.indexByte
    by_cases e : a = c
    · subst e; simp
    · have e' : (a == c) = false := by simpa using e
      have e2 : (c == a) = false := by simpa using fun h => e h.symm
      rw [e', List.contains_cons, e2, Bool.false_or, ← ih]
      by_cases h : Lib.indexByte l c = -1
      · simp [h]
      · have h' : (Lib.indexByte l c == -1) = false := by simpa using h
        simp only [h']
        have : 0 ≤ Lib.indexByte l c := by omega
        simp [this]
        omega

theorem ret_bool {a b : Bool} (h : a = b) : Ending.returned (.bool a) = Ending.returned (.bool b) := by rw [h]

/-! ## The function values -/
/-- A function value that tells bytes by p, and touches nothing, in this world. -/
def Tells (g : Nat) (lb : Array Value) (p : UInt8 → Bool) (w : World) : Prop :=
  ∀ c : UInt8, Calls Try.prog g (#[.int .u8 (c.toNat : Int)] ++ lb) w fun e w' => e = .returned (.bool (p c)) ∧ w = w'

theorem isPort1 (w : World) : Tells 41 #[] digC w := by
  intro c
  have hc := c.toNat_lt
  by_cases h1 : 48 ≤ c.toNat <;> by_cases h2 : c.toNat ≤ 57
  all_goals
    have z1 : (48 : Int) ≤ (c.toNat : Int) ↔ 48 ≤ c.toNat := by omega
    have z2 : (c.toNat : Int) ≤ 57 ↔ c.toNat ≤ 57 := by omega
    have HV : Hid (digC c = (decide (48 ≤ c.toNat) && decide (c.toNat ≤ 57))) := Lib.hid rfl
    go_enter Try.func41, Try.ntmps41
    go_wp2
    all_goals first | (exfalso; omega) | (go_ret; exact ⟨by rw [HV.out]; simp [h1, h2], rfl⟩)

theorem okC_yes {m : List UInt8} {b : Bool} {c : UInt8} (h : lowC c || digC c) : okC m b c = true := by simp [okC, h]
theorem okC_cap {m : List UInt8} {b : Bool} {c : UInt8} (h : (lowC c || digC c) = false) (h2 : capC c = true) : okC m b c = b := by simp [okC, h, h2]
theorem okC_mark {m : List UInt8} {b : Bool} {c : UInt8} (h : (lowC c || digC c) = false) (h2 : capC c = false) : okC m b c = m.contains c := by simp [okC, h, h2]

set_option maxHeartbeats 1000000 in
theorem letters1 (marks : ByteArray) (cap : Bool) (w : World) (a b : Nat) (ha : w.cell? ⟨a, 0, none⟩ = some (.bool cap)) (hb : w.cell? ⟨b, 0, none⟩ = some (.string marks)) :
    Tells 42 #[.pointer (some ⟨a, 0, none⟩), .pointer (some ⟨b, 0, none⟩)] (okC marks.data.toList cap) w := by
  intro c
  have C := Lib.hid (Try.strings_IndexByte marks (c.toNat : Int) w)
  have hci : ((c.toNat : Int).toNat.toUInt8) = c := by simp
  rw [hci] at C
  have HI := Lib.hid (index_has marks.data.toList c)
  obtain ⟨R, HR⟩ : ∃ R, Hid (okC marks.data.toList cap c = R) := ⟨_, Lib.hid rfl⟩
  have hc := c.toNat_lt
  have ways : c.toNat < 48 ∨ (48 ≤ c.toNat ∧ c.toNat ≤ 57) ∨ (57 < c.toNat ∧ c.toNat < 65) ∨ (65 ≤ c.toNat ∧ c.toNat ≤ 90) ∨ (90 < c.toNat ∧ c.toNat < 97) ∨ (97 ≤ c.toNat ∧ c.toNat ≤ 122) ∨ 122 < c.toNat := by omega
  have HV : Hid (((48 ≤ c.toNat ∧ c.toNat ≤ 57) ∨ (97 ≤ c.toNat ∧ c.toNat ≤ 122) → R = true) ∧ ((65 ≤ c.toNat ∧ c.toNat ≤ 90) → R = cap) ∧ (¬ ((48 ≤ c.toNat ∧ c.toNat ≤ 57) ∨ (97 ≤ c.toNat ∧ c.toNat ≤ 122)) → ¬ (65 ≤ c.toNat ∧ c.toNat ≤ 90) → R = marks.data.toList.contains c)) := by
    refine Lib.hid ⟨fun h => ?_, fun h => ?_, fun h h2 => ?_⟩
    · rw [← HR.out]; exact okC_yes (by simp [lowC, digC]; omega)
    · rw [← HR.out]; exact okC_cap (by simp [lowC, digC]; omega) (by simp [capC]; omega)
    · rw [← HR.out]; exact okC_mark (by simp [lowC, digC]; omega) (by simp [capC]; omega)
  rw [HR.out]
  rcases ways with h | h | h | h | h | h | h
  all_goals
    have d1 : decide ((97 : Int) ≤ (c.toNat : Int)) = decide (97 ≤ c.toNat) := by simp only [decide_eq_decide]; omega
    have d2 : decide ((c.toNat : Int) ≤ 122) = decide (c.toNat ≤ 122) := by simp only [decide_eq_decide]; omega
    have d3 : decide ((48 : Int) ≤ (c.toNat : Int)) = decide (48 ≤ c.toNat) := by simp only [decide_eq_decide]; omega
    have d4 : decide ((c.toNat : Int) ≤ 57) = decide (c.toNat ≤ 57) := by simp only [decide_eq_decide]; omega
    have d5 : decide ((65 : Int) ≤ (c.toNat : Int)) = decide (65 ≤ c.toNat) := by simp only [decide_eq_decide]; omega
    have d6 : decide ((c.toNat : Int) ≤ 90) = decide (c.toNat ≤ 90) := by simp only [decide_eq_decide]; omega
    first | rw [decide_eq_true (by omega : 97 ≤ c.toNat)] at d1 | rw [decide_eq_false (by omega : ¬ 97 ≤ c.toNat)] at d1
    first | rw [decide_eq_true (by omega : c.toNat ≤ 122)] at d2 | rw [decide_eq_false (by omega : ¬ c.toNat ≤ 122)] at d2
    first | rw [decide_eq_true (by omega : 48 ≤ c.toNat)] at d3 | rw [decide_eq_false (by omega : ¬ 48 ≤ c.toNat)] at d3
    first | rw [decide_eq_true (by omega : c.toNat ≤ 57)] at d4 | rw [decide_eq_false (by omega : ¬ c.toNat ≤ 57)] at d4
    first | rw [decide_eq_true (by omega : 65 ≤ c.toNat)] at d5 | rw [decide_eq_false (by omega : ¬ 65 ≤ c.toNat)] at d5
    first | rw [decide_eq_true (by omega : c.toNat ≤ 90)] at d6 | rw [decide_eq_false (by omega : ¬ c.toNat ≤ 90)] at d6
    have HH := Lib.hid h
    clear h
    go_enter Try.func42, Try.ntmps42
    go_wp2_with (go_at_call 43; refine C.out.mono ?_; rintro e w' ⟨rfl, rfl⟩)
    go_ret
    have h := HH.out
    first
      | exact ⟨ret_bool (HV.out.1 (by omega)).symm, rfl⟩
      | exact ⟨ret_bool (HV.out.2.1 (by omega)).symm, rfl⟩
      | exact ⟨ret_bool ((HV.out.2.2 (by omega) (by omega)).trans HI.out.symm).symm, rfl⟩

theorem all_drop {p : UInt8 → Bool} (s : ByteArray) (k : Nat) (h : k < s.size) : (s.data.toList.drop k).all p = (p s[k] && (s.data.toList.drop (k + 1)).all p) := by
  rw [drop_at s k h, List.all_cons]

set_option maxHeartbeats 1000000 in
theorem hasOnly_any (s : ByteArray) (g : Nat) (lb : Array Value) (p : UInt8 → Bool) (w : World) (eg : ∀ args w, (callFunc g args).run Try.prog w = .ok (.enter g args) w) (ht : Tells g lb p w) (hs : s.size ≤ 1000000) :
    Calls Try.prog 36 #[.string s, .func (.func g) #[] lb] w fun e w' => e = .returned (.bool (onlyL p s.data.toList)) ∧ w = w' := by
  have HT := Lib.hid ht
  have HE : Hid (onlyL p s.data.toList = (s.data.toList.all p && decide (0 < s.size))) := by
    refine Lib.hid ?_
    unfold onlyL
    rw [Lib.size_eq]
    cases s.data.toList <;> simp
  obtain ⟨R, HR⟩ : ∃ R, Hid (s.data.toList.all p = R) := ⟨_, Lib.hid rfl⟩
  rw [HE.out, HR.out]
  clear ht HE
  go_enter Try.func36, Try.ntmps36
  go_wp2
  go_loopg [8] s.size (fun gk s8 wr => ∃ k : Nat, k + gk = s.size ∧ s8 = .int .i64 k ∧ Hid ((s.data.toList.drop k).all p = R) ∧ w = wr)
  case atStart => exact ⟨0, by omega, rfl, HR, rfl⟩
  case round =>
    obtain ⟨k, hkg, rfl, HI, rfl⟩ := hrel
    cases gk with
    | zero =>
      have hkz : ¬ ((k : Int) < (s.size : Int)) := by omega
      have HE : Hid (R = true) := by
        have := HI.out
        rw [drop_end s k (by omega)] at this
        exact this.symm
      go_wp2
      go_ret
      exact ⟨ret_bool (by rw [HE.out]; simp), rfl⟩
    | succ g' =>
      have hlt : k < s.size := by omega
      have C := Lib.hid (HT.out s[k])
      cases hp : p s[k] with
      | false =>
        have HE : Hid (R = false) := by
          have := HI.out
          rw [all_drop s k hlt, hp] at this
          exact this.symm
        go_wp2_with (go_at_fn g; refine C.out.mono ?_; rintro e w' ⟨rfl, rfl⟩)
        go_ret
        exact ⟨ret_bool (by rw [HE.out]; rfl), rfl⟩
      | true =>
        have HE : Hid ((s.data.toList.drop (k + 1)).all p = R) := by
          have := HI.out
          rw [all_drop s k hlt, hp] at this
          exact this
        go_wp2_with (go_at_fn g; refine C.out.mono ?_; rintro e w' ⟨rfl, rfl⟩)
        go_roundg g'
        case measure => omega
        case rel => exact ⟨k + 1, by omega, by go_num, HE, rfl⟩

/-- What strings.Cut gives at ":": the parts. -/
theorem cut58 (l : List UInt8) : Lib.index l [58] = if hasC l then ((pre l).length : Int) else -1 := by
  have : ∀ l : List UInt8, Lib.index l [58] = Lib.indexByte l 58 := by
    intro l
    induction l with
    | nil => rfl
    | cons a l ih =>
      unfold Lib.index Lib.indexByte
      rw [ih]
      by_cases e : a = 58
      · subst e; simp [List.isPrefixOf]
      · have e2 : ((58 : UInt8) == a) = false := by simpa using fun h => e h.symm
        have e3 : (a == 58) = false := by simpa using e
        simp [List.isPrefixOf, e2, e3]
  rw [this, index58]

set_option maxHeartbeats 2000000 in
/-- strings.Cut at ":", whatever lies in memory. -/
theorem slcut (s : ByteArray) (w : World) (hs : s.size ≤ 1000000) :
    Calls Try.prog 40 #[.string s, .string ⟨#[58]⟩] w fun e w' => e = .returned (.tuple #[.string (str (pre s.data.toList)), .string (str (post s.data.toList)), .bool (hasC s.data.toList)]) ∧ Below w.heap.size w w' := by
  have C := Lib.hid (Try.stringslite_Index_one s 58 w)
  cases hh : hasC s.data.toList with
  | false =>
    have HI : Hid (Lib.indexByte s.data.toList 58 = -1) := Lib.hid (by rw [index58, hh]; rfl)
    have H1 : Hid (str (pre s.data.toList) = s) := Lib.hid (by rw [pre_none hh, str_of])
    have H2 : Hid (str (post s.data.toList) = ByteArray.empty) := Lib.hid (by rw [post_none hh]; rfl)
    rw [H1.out, H2.out]
    go_enter Try.func40, Try.ntmps40
    go_wp2_with (go_at_call 45; refine C.out.mono ?_; rintro e w' ⟨rfl, rfl⟩; rw [HI.out])
    go_ret3
    exact ⟨rfl, Below.refl _ _⟩
  | true =>
    obtain ⟨p1, p2, p3⟩ := take_pre hh
    have hlen : (pre s.data.toList).length + 1 + (post s.data.toList).length = s.size := by rw [Lib.size_eq]; exact p3
    clear p3
    obtain ⟨i, hi⟩ : ∃ i, i = (pre s.data.toList).length := ⟨_, rfl⟩
    rw [← hi] at p1 p2 hlen
    have HI : Hid (Lib.indexByte s.data.toList 58 = (i : Int)) := Lib.hid (by rw [index58, hh, hi]; rfl)
    have H1 : Hid (str (pre s.data.toList) = s.extract 0 i) := by
      refine Lib.hid ?_
      rw [Lib.extract_eq, List.drop_zero, Nat.sub_zero, p1]
      rfl
    have H2 : Hid (str (post s.data.toList) = s.extract (i + 1) s.size) := by
      refine Lib.hid ?_
      rw [Lib.extract_eq, p2, List.take_of_length_le (by omega)]
      rfl
    clear p1 p2 hi
    rw [H1.out, H2.out]
    have c1 : (0 : Int) ≤ ↑i := by omega
    have c2 : (↑i : Int) ≤ ↑s.size := by omega
    have c3 : (0 : Int) ≤ ↑i + 1 := by omega
    have c4 : (↑i + 1 : Int) ≤ ↑s.size := by omega
    go_enter Try.func40, Try.ntmps40
    go_wp2_with (go_at_call 45; refine C.out.mono ?_; rintro e w' ⟨rfl, rfl⟩; rw [HI.out])
    go_region
    all_goals go_wp2
    all_goals go_ret3
    all_goals exact ⟨rfl, (Below.refl _ _).drew⟩

theorem cut_any (s : ByteArray) (w : World) (hs : s.size ≤ 1000000) :
    Calls Try.prog 26 #[.string s, .string ⟨#[58]⟩] w fun e w' => e = .returned (.tuple #[.string (str (pre s.data.toList)), .string (str (post s.data.toList)), .bool (hasC s.data.toList)]) ∧ Below w.heap.size w w' := by
  have C := Lib.hid (slcut s w hs)
  go_enter Try.func26, Try.ntmps26
  go_wp2_with (go_at_call 40; refine C.out.mono ?_; rintro e w' ⟨rfl, b⟩)
  go_ret3
  exact ⟨rfl, b⟩

/-- lettersAnd lays two variables and gives back the function value over them. -/
theorem letters_any (marks : ByteArray) (cap : Bool) (w : World) :
    Calls Try.prog 33 #[.string marks, .bool cap] w fun e w' => ∃ a b : Nat, e = .returned (.func (.func 42) #[] #[.pointer (some ⟨a, 0, none⟩), .pointer (some ⟨b, 0, none⟩)]) ∧ Below w.heap.size w w' ∧ w'.cell? ⟨a, 0, none⟩ = some (.bool cap) ∧ w'.cell? ⟨b, 0, none⟩ = some (.string marks) ∧ a < w'.heap.size ∧ b < w'.heap.size := by
  go_enter Try.func33, Try.ntmps33
  go_wp2
  go_ret
  refine ⟨_, _, rfl, ?_, ?_, ?_, ?_, ?_⟩
  · exact ((Below.refl _ w).alloc (by simp) _).alloc (by simp) _
  · simp
  · simp
  all_goals (simp <;> omega)

theorem e42 : ∀ args w, (callFunc 42 args).run Try.prog w = .ok (.enter 42 args) w := enters_of Try.func42 (by kernel_rfl) rfl
theorem e41 : ∀ args w, (callFunc 41 args).run Try.prog w = .ok (.enter 41 args) w := enters_of Try.func41 (by kernel_rfl) rfl

theorem isHost_any (s : ByteArray) (w : World) (hs : s.size ≤ 1000000) :
    Calls Try.prog 27 #[.string s] w fun e w' => e = .returned (.bool (hostL s.data.toList)) ∧ Below w.heap.size w w' := by
  have C1 := Lib.hid (letters_any ⟨#[46, 45]⟩ true w)
  have C2 := Lib.hid fun a b w1 ha hb => hasOnly_any s 42 #[.pointer (some ⟨a, 0, none⟩), .pointer (some ⟨b, 0, none⟩)] _ w1 e42 (letters1 ⟨#[46, 45]⟩ true w1 a b ha hb) hs
  go_enter Try.func27, Try.ntmps27
  go_wp2_with (go_at_call 33; refine C1.out.mono ?_; rintro e w1 ⟨a, b, rfl, b1, ha, hb, _, _⟩)
  refine (C2.out a b w1 ha hb).mono ?_
  rintro e w2 ⟨rfl, rfl⟩
  go_wp2
  go_ret
  exact ⟨rfl, b1⟩

theorem isPort_any (s : ByteArray) (w : World) (hs : s.size ≤ 1000000) :
    Calls Try.prog 28 #[.string s] w fun e w' => e = .returned (.bool (portL s.data.toList)) ∧ w = w' := by
  have C := Lib.hid (hasOnly_any s 41 #[] _ w e41 (isPort1 w) hs)
  have hsz := Lib.size_eq s
  by_cases h : s.size ≤ 5
  · have HE : Hid (portL s.data.toList = onlyL digC s.data.toList) := Lib.hid (by unfold portL; rw [decide_eq_true (by omega), Bool.true_and])
    rw [HE.out]
    have h5 : decide ((s.size : Int) ≤ 5) = true := by simp; omega
    clear hsz
    go_enter Try.func28, Try.ntmps28
    go_wp2_with (go_at_call 36; refine C.out.mono ?_; rintro e w1 ⟨rfl, rfl⟩)
    go_ret
    exact ⟨rfl, rfl⟩
  · have HE : Hid (portL s.data.toList = false) := Lib.hid (by unfold portL; rw [decide_eq_false (by omega), Bool.false_and])
    rw [HE.out]
    have h5 : decide ((s.size : Int) ≤ 5) = false := by simp; omega
    clear hsz
    go_enter Try.func28, Try.ntmps28
    go_wp2_with (go_at_call 36; refine C.out.mono ?_; rintro e w1 ⟨rfl, rfl⟩)
    go_ret
    exact ⟨rfl, rfl⟩
end Go.Proofs.Ytemomaeecelofaa
