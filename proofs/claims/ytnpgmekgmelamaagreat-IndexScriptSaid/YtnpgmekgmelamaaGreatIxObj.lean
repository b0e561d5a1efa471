/-
  What is proved: an index in memory: its struct; what isMade, Has, Len and literal return; what the methods return on nil.
-/
import Derived.Test.YtnpgmekgmelamaaGreatIxMap
import Derived.Test.YtnpgmekgmelamaaGreatGlText
import Derived.Handy
namespace Go.Proofs.YtnpgmekgmelamaaGreat
open Go.RowKit Go.Shelf Go.Maps

def ObjAt (W : World) (x : Nat) (most : Nat) (bg bl bo : Nat) : Prop := W.heap[x]? = some (.cells #[.pointer (some ⟨x, 0, none⟩), .int .i64 (most : Int), .map (some bg), .map (some bl), .map (some bo)] 109 (0, 0))
section
variable {W : World} {x most bg bl bo : Nat}
theorem ObjAt.c0 (h : ObjAt W x most bg bl bo) : W.cell? ⟨x, 0, none⟩ = some (.pointer (some ⟨x, 0, none⟩)) := by simp [World.cell?, show W.heap[x]? = _ from h]
theorem ObjAt.c1 (h : ObjAt W x most bg bl bo) : W.cell? ⟨x, 1, none⟩ = some (.int .i64 (most : Int)) := by simp [World.cell?, show W.heap[x]? = _ from h]
theorem ObjAt.c2 (h : ObjAt W x most bg bl bo) : W.cell? ⟨x, 2, none⟩ = some (.map (some bg)) := by simp [World.cell?, show W.heap[x]? = _ from h]
theorem ObjAt.c3 (h : ObjAt W x most bg bl bo) : W.cell? ⟨x, 3, none⟩ = some (.map (some bl)) := by simp [World.cell?, show W.heap[x]? = _ from h]
theorem ObjAt.c4 (h : ObjAt W x most bg bl bo) : W.cell? ⟨x, 4, none⟩ = some (.map (some bo)) := by simp [World.cell?, show W.heap[x]? = _ from h]
theorem ObjAt.lt (h : ObjAt W x most bg bl bo) : x < W.heap.size := (Array.getElem?_eq_some_iff.1 (show W.heap[x]? = _ from h)).1
theorem ObjAt.same {W' : World} (h : ObjAt W x most bg bl bo) (e : W'.heap[x]? = W.heap[x]?) : ObjAt W' x most bg bl bo := e.trans h
end

theorem info_idx : (Tryz.prog.info? 109).isSome = true := by kernel_rfl
theorem same_idx (a : Addr) (w : World) : (binOp .eql 49 (.pointer (some a)) (.pointer (some a))).run Tryz.prog w = .ok (.bool true) w := by
  obtain ⟨j, hj⟩ := Option.isSome_iff_exists.1 info_idx
  exact run_eql_ptr_same w a Tryz.underlying49 hj
theorem imade_any {w : World} {x most bg bl bo : Nat} (h : ObjAt w x most bg bl bo) :
    Calls Tryz.prog 68 #[.pointer (some ⟨x, 0, none⟩)] w fun e w' => e = .returned (.bool true) ∧ w' = w := by
  have c0 := h.c0
  have hpe := fun w => same_idx ⟨x, 0, none⟩ w
  go_enter Tryz.func68, Tryz.ntmps68
  go_wp2
  go_ret
  exact ⟨rfl, rfl⟩
theorem imade_nil (w : World) :
    Calls Tryz.prog 68 #[.pointer none] w fun e w' => e = .returned (.bool false) ∧ w' = w := by
  go_enter Tryz.func68, Tryz.ntmps68
  go_wp2
  go_ret
  exact ⟨rfl, rfl⟩

/-! nil -/
theorem iput_nil (i : Int) (p : ByteArray) (f : Bool) (w : World) :
    Calls Tryz.prog 41 #[.pointer none, .int .i64 i, .string p, .bool f] w fun e w' => e = .returned (.int .i64 1) ∧ w' = w := by
  have C := Lib.hid (imade_nil w)
  go_enter Tryz.func41, Tryz.ntmps41
  go_wp2_with (go_at_call 68; refine C.out.mono ?_; rintro e w' ⟨rfl, rfl⟩)
  go_ret
  exact ⟨rfl, rfl⟩
theorem idrop_nil (i : Int) (w : World) :
    Calls Tryz.prog 42 #[.pointer none, .int .i64 i] w fun e w' => e = .returned (.int .i64 1) ∧ w' = w := by
  have C := Lib.hid (imade_nil w)
  go_enter Tryz.func42, Tryz.ntmps42
  go_wp2_with (go_at_call 68; refine C.out.mono ?_; rintro e w' ⟨rfl, rfl⟩)
  go_ret
  exact ⟨rfl, rfl⟩
theorem imatch_nil (t : ByteArray) (w : World) :
    Calls Tryz.prog 34 #[.pointer none, .string t] w fun e w' => e = .returned (.slice none 0 0) ∧ w' = w := by
  have C := Lib.hid (imade_nil w)
  go_enter Tryz.func34, Tryz.ntmps34
  go_wp2_with (go_at_call 68; refine C.out.mono ?_; rintro e w' ⟨rfl, rfl⟩)
  go_ret
  exact ⟨rfl, rfl⟩
theorem ihas_nil (i : Int) (w : World) :
    Calls Tryz.prog 37 #[.pointer none, .int .i64 i] w fun e w' => e = .returned (.bool false) ∧ w' = w := by
  have C := Lib.hid (imade_nil w)
  go_enter Tryz.func37, Tryz.ntmps37
  go_wp2_with (go_at_call 68; refine C.out.mono ?_; rintro e w' ⟨rfl, rfl⟩)
  go_ret
  exact ⟨rfl, rfl⟩
theorem ilen_nil (w : World) :
    Calls Tryz.prog 36 #[.pointer none] w fun e w' => e = .returned (.int .i64 0) ∧ w' = w := by
  have C := Lib.hid (imade_nil w)
  go_enter Tryz.func36, Tryz.ntmps36
  go_wp2_with (go_at_call 68; refine C.out.mono ?_; rintro e w' ⟨rfl, rfl⟩)
  go_ret
  exact ⟨rfl, rfl⟩
theorem iglobs_nil (w : World) :
    Calls Tryz.prog 40 #[.pointer none] w fun e w' => e = .returned (.slice none 0 0) ∧ w' = w := by
  have C := Lib.hid (imade_nil w)
  go_enter Tryz.func40, Tryz.ntmps40
  go_wp2_with (go_at_call 68; refine C.out.mono ?_; rintro e w' ⟨rfl, rfl⟩)
  go_ret
  exact ⟨rfl, rfl⟩

/-! a glob as a value -/
def globV (g : G) : Value := .agg #[.int .i64 g.id, .string g.p, .bool g.f]
def zeroG : Value := .agg #[.int .i64 0, .string ⟨#[]⟩, .bool false]
theorem zero_glob (w : World) : (zeroValue 66).run Tryz.prog w = .ok zeroG w := by kernel_rfl
theorem zero_ints (w : World) : (zeroValue 22).run Tryz.prog w = .ok (.slice none 0 0) w := by kernel_rfl
theorem zero_auto (w : World) : (zeroValue 39).run Tryz.prog w = .ok (.pointer none) w := by kernel_rfl
theorem zero_bool (w : World) : (zeroValue 4).run Tryz.prog w = .ok (.bool false) w := by kernel_rfl

theorem keyL_size (g : G) : (fL g.f g.p.data.toList).length = g.p.size := by
  rw [Lib.size_eq]; unfold fL foldL; split <;> simp
theorem glob_cell {w w' : World} {id : Int} {p : ByteArray} {f : Bool} (hb : Below (w.alloc (.cells #[.int .i64 id, .string p, .bool f] 66)).heap.size (w.alloc (.cells #[.int .i64 id, .string p, .bool f] 66)) w') :
    w'.cell? ⟨w.heap.size, 2, none⟩ = some (.bool f) ∧ Below w.heap.size w w' := by
  have h := (hb.block w.heap.size (by simp)).trans (World.alloc_heap_new w _)
  exact ⟨by simp [World.cell?, h], ((Below.refl _ w).alloc (Nat.le_refl _) _).trans (hb.mono (by simp))⟩
set_option maxHeartbeats 1000000 in
/-- What a glob is kept under, if it is a literal. -/
theorem lit_any (g : G) (w : World) (hp : g.p.size ≤ 1000000) :
    Calls Tryz.prog 77 #[globV g] w fun e w' => ∃ s, e = .returned (.tuple #[.string s, .bool (keyG g).isSome]) ∧ (∀ k, keyG g = some k → s = str k) ∧ Below w.heap.size w w' := by
  obtain ⟨id, p, f⟩ := g
  have hp' : p.size ≤ 1000000 := hp
  unfold globV
  dsimp only
  have C1 := Lib.hid (fun w => literal_any p w hp')
  cases hl : litL p.data.toList with
  | false =>
    have hk : keyG ⟨id, p, f⟩ = none := by unfold keyG; dsimp only; rw [hl]; rfl
    rw [hl] at C1
    rw [hk]
    obtain ⟨s0, hs0⟩ : ∃ s0, litS p = s0 := ⟨_, rfl⟩
    rw [hs0] at C1
    clear hk hs0 hl hp hp'
    go_enter Tryz.func77, Tryz.ntmps77
    go_wp2_with (go_at_call 104; refine (C1.out _).mono ?_; rintro e w' ⟨rfl, hb⟩; obtain ⟨c2, hb1⟩ := glob_cell hb; clear hb)
    refine bodyPost_ret (v := .tuple #[.string s0, .bool false]) (by simp [results, Tryz.results77, go_sem]) rfl ?_
    exact ⟨s0, rfl, fun k hk => (by cases hk), hb1⟩
  | true =>
    have hs0 : litS p = p := by unfold litS; rw [hl]; rfl
    have hk : keyG ⟨id, p, f⟩ = some (fL f p.data.toList) := by unfold keyG; dsimp only; rw [hl]; rfl
    rw [hl, hs0] at C1
    rw [hk]
    have C2 : Hid (∀ W, Calls Tryz.prog 70 #[.string p] W fun e w' => e = .returned (.string (str (foldL p.data.toList))) ∧ Below W.heap.size W w') := Lib.hid (fun W => fold_any p W hp')
    cases f with
    | false =>
      clear hk hs0 hl hp hp' C2
      go_enter Tryz.func77, Tryz.ntmps77
      go_wp2_with (go_at_call 104; refine (C1.out _).mono ?_; rintro e w' ⟨rfl, hb⟩; obtain ⟨c2, hb1⟩ := glob_cell hb; clear hb)
      refine bodyPost_ret (v := .tuple #[.string p, .bool true]) (by simp [results, Tryz.results77, go_sem]) rfl ?_
      refine ⟨p, rfl, fun k hk => ?_, hb1⟩
      injection hk with hk
      subst hk
      exact (str_of p).symm
    | true =>
      clear hk hs0 hl hp hp'
      obtain ⟨R, hR⟩ : ∃ R, foldL p.data.toList = R := ⟨_, rfl⟩
      have hf : fL true p.data.toList = R := hR
      rw [hR] at C2
      rw [hf]
      clear hf hR
      go_enter Tryz.func77, Tryz.ntmps77
      go_wp2_with (first
        | (go_at_call 104; refine (C1.out _).mono ?_; rintro e w' ⟨rfl, hb⟩; obtain ⟨c2, hb1⟩ := glob_cell hb; clear hb)
        | (go_at_call 70; refine (C2.out _).mono ?_; rintro e w2 ⟨rfl, hb2⟩))
      refine bodyPost_ret (v := .tuple #[.string (str R), .bool true]) (by simp [results, Tryz.results77, go_sem]) rfl ?_
      refine ⟨str R, rfl, fun k hk => ?_, hb1.trans (hb2.mono hb1.size)⟩
      injection hk with hk
      rw [hk]
end Go.Proofs.YtnpgmekgmelamaaGreat
