/-
  What is proved: an automaton in memory, and what its small methods return: isMade, end, States, counted, Pattern; at nil too.
-/
import Derived.Test.YtchobpfdmkgnoaaNfList
import Derived.Test.YtchobpfdmkgnoaaGlText
import Derived.LaidEqlPtr
namespace Go.Proofs.Ytchobpfdmkgnoaa
open Go.RowKit Go.Shelf

/-- Block b holds the automaton of the normal form P, with Fold or without. -/
def NfaAt (W : World) (b : Nat) (P : List UInt8) (f : Bool) : Prop :=
  W.heap[b]? = some (.cells #[.pointer (some ⟨b, 0, none⟩), .string (str P), .bool f, .string (str (cntL f P))] 57 (0, 0))
theorem NfaAt.lt {W : World} {b : Nat} {P : List UInt8} {f : Bool} (h : NfaAt W b P f) : b < W.heap.size := (Array.getElem?_eq_some_iff.1 h).1
theorem NfaAt.below {W W' : World} {b B : Nat} {P : List UInt8} {f : Bool} (h : NfaAt W b P f) (hb : Below B W W') (hlt : b < B) : NfaAt W' b P f := (hb.block b hlt).trans h
theorem NfaAt.same {W W' : World} {b : Nat} {P : List UInt8} {f : Bool} (h : NfaAt W b P f) (e : W'.heap[b]? = W.heap[b]?) : NfaAt W' b P f := e.trans h
theorem NfaAt.c0 {W : World} {b : Nat} {P : List UInt8} {f : Bool} (h : NfaAt W b P f) : W.cell? ⟨b, 0, none⟩ = some (.pointer (some ⟨b, 0, none⟩)) := by simp [World.cell?, show W.heap[b]? = _ from h]
theorem NfaAt.c1 {W : World} {b : Nat} {P : List UInt8} {f : Bool} (h : NfaAt W b P f) : W.cell? ⟨b, 1, none⟩ = some (.string (str P)) := by simp [World.cell?, show W.heap[b]? = _ from h]
theorem NfaAt.c2 {W : World} {b : Nat} {P : List UInt8} {f : Bool} (h : NfaAt W b P f) : W.cell? ⟨b, 2, none⟩ = some (.bool f) := by simp [World.cell?, show W.heap[b]? = _ from h]
theorem NfaAt.c3 {W : World} {b : Nat} {P : List UInt8} {f : Bool} (h : NfaAt W b P f) : W.cell? ⟨b, 3, none⟩ = some (.string (str (cntL f P))) := by simp [World.cell?, show W.heap[b]? = _ from h]
def nfaP (b : Nat) : Value := .pointer (some ⟨b, 0, none⟩)

theorem info_nfa : (Try.prog.info? 57).isSome = true := by kernel_rfl
theorem same_ptr (a : Addr) (w : World) : (binOp .eql 37 (.pointer (some a)) (.pointer (some a))).run Try.prog w = .ok (.bool true) w := by
  obtain ⟨j, hj⟩ := Option.isSome_iff_exists.1 info_nfa
  exact run_eql_ptr_same w a Try.underlying37 hj

theorem isMade_any {w : World} {b : Nat} {P : List UInt8} {f : Bool} (h : NfaAt w b P f) :
    Calls Try.prog 37 #[.pointer (some ⟨b, 0, none⟩)] w fun e w' => e = .returned (.bool true) ∧ w' = w := by
  have c0 := h.c0
  have hpe := fun w => same_ptr ⟨b, 0, none⟩ w
  go_enter Try.func37, Try.ntmps37
  go_wp2
  go_ret
  exact ⟨rfl, rfl⟩

theorem isMade_nil (w : World) :
    Calls Try.prog 37 #[.pointer none] w fun e w' => e = .returned (.bool false) ∧ w' = w := by
  go_enter Try.func37, Try.ntmps37
  go_wp2
  go_ret
  exact ⟨rfl, rfl⟩

theorem len_str (l : List UInt8) : ((str l).size : Int) = (l.length : Int) := by rw [str_size]

theorem end_any {w : World} {b : Nat} {P : List UInt8} {f : Bool} (h : NfaAt w b P f) :
    Calls Try.prog 44 #[.pointer (some ⟨b, 0, none⟩)] w fun e w' => e = .returned (.int .i64 (P.length : Int)) ∧ w' = w := by
  have c1 := h.c1
  have hl := len_str P
  go_enter Try.func44, Try.ntmps44
  go_wp2
  go_ret
  exact ⟨rfl, rfl⟩

theorem sizes_any {w : World} {b : Nat} {P : List UInt8} {f : Bool} (h : NfaAt w b P f) (hP : P.length ≤ 1000000) :
    Calls Try.prog 55 #[.pointer (some ⟨b, 0, none⟩)] w fun e w' => e = .returned (.int .i64 ((P.length : Int) + 1)) ∧ w' = w := by
  have c1 := h.c1
  have hl := len_str P
  have C := Lib.hid (isMade_any h)
  go_enter Try.func55, Try.ntmps55
  go_wp2_with (go_at_call 37; refine C.out.mono ?_; rintro e w' ⟨rfl, rfl⟩)
  go_ret
  exact ⟨rfl, rfl⟩

theorem sizes_nil (w : World) :
    Calls Try.prog 55 #[.pointer none] w fun e w' => e = .returned (.int .i64 0) ∧ w' = w := by
  have C := Lib.hid (isMade_nil w)
  go_enter Try.func55, Try.ntmps55
  go_wp2_with (go_at_call 37; refine C.out.mono ?_; rintro e w' ⟨rfl, rfl⟩)
  go_ret
  exact ⟨rfl, rfl⟩

/-- counted, from f alone: the automaton may be half made. -/
theorem counted_any {w : World} {b : Nat} {f : Bool} (c2 : w.cell? ⟨b, 2, none⟩ = some (.bool f)) (s : ByteArray) (hs : s.size ≤ 1000000) :
    Calls Try.prog 22 #[.pointer (some ⟨b, 0, none⟩), .string s] w fun e w' => e = .returned (.string (str (cntL f s.data.toList))) ∧ Below w.heap.size w w' := by
  cases f with
  | true =>
    have C := Lib.hid (fold_any s w hs)
    show Calls _ _ _ _ fun e w' => e = .returned (.string (str (foldL s.data.toList))) ∧ _
    go_enter Try.func22, Try.ntmps22
    go_wp2_with (go_at_call 31; refine C.out.mono ?_; rintro e w' ⟨rfl, b⟩)
    go_ret
    exact ⟨rfl, b⟩
  | false =>
    have hst : str (cntL false s.data.toList) = s := str_of s
    rw [hst]
    go_enter Try.func22, Try.ntmps22
    go_wp2
    go_ret
    exact ⟨rfl, Below.refl _ _⟩

theorem pattern_any {w : World} {b : Nat} {P : List UInt8} {f : Bool} (h : NfaAt w b P f) (hP : P.length ≤ 1000000) :
    Calls Try.prog 32 #[.pointer (some ⟨b, 0, none⟩)] w fun e w' => e = .returned (.tuple #[.string (str P), .bool f]) ∧ Below w.heap.size w w' := by
  have c1 := h.c1
  have c2 := h.c2
  have C := Lib.hid (isMade_any h)
  have hbl := h.lt
  have C2 := Lib.hid (fun w => clone_any (str P) w (by rw [str_size]; exact hP))
  go_enter Try.func32, Try.ntmps32
  go_wp2_with (go_at_call 37; refine C.out.mono ?_; rintro e w' ⟨rfl, rfl⟩)
  go_region_with (go_at_call 48; refine (C2.out _).mono ?_; rintro e w2 ⟨rfl, hb⟩; have c22 : w2.cell? ⟨b, 2, none⟩ = some (.bool f) := (hb.cell (p := ⟨b, 2, none⟩) hbl).trans (by first | exact c2 | simpa using c2))
  all_goals
    go_wp2
    go_ret2
    first
      | exact ⟨rfl, (Below.refl _ _).drew.trans hb⟩
      | exact ⟨rfl, (Below.refl _ _).drew.trans hb.drew⟩
      | exact ⟨rfl, hb.drew⟩
      | exact ⟨rfl, hb⟩

theorem pattern_nil (w : World) :
    Calls Try.prog 32 #[.pointer none] w fun e w' => e = .returned (.tuple #[.string ⟨#[]⟩, .bool false]) ∧ w' = w := by
  have C := Lib.hid (isMade_nil w)
  go_enter Try.func32, Try.ntmps32
  go_wp2_with (go_at_call 37; refine C.out.mono ?_; rintro e w' ⟨rfl, rfl⟩)
  go_ret2
  exact ⟨rfl, rfl⟩
end Go.Proofs.Ytchobpfdmkgnoaa
