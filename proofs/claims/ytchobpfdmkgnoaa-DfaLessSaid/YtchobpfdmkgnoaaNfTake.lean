/-
  What is proved: what nfa.Step returns at any list of numbers and any byte: the list of the set after the byte (NfMath's stepF), from the states of the list. What lay in memory before stands as it stood.
-/
import Derived.Test.YtchobpfdmkgnoaaNfNfa
namespace Go.Proofs.Ytchobpfdmkgnoaa
open Go.RowKit Go.Shelf

theorem inL_snoc (l : List Int) (x : Int) (i : Nat) : inL (l ++ [x]) i = (inL l i || decide (x = (i : Int))) := by
  rw [inL_app]
  congr 1
  by_cases e : x = (i : Int)
  · subst e; simp [inL]
  · have : ¬ ((i : Int) = x) := fun h => e h.symm
    simp [inL, e, this]
theorem take_int (zs : List Int) (k : Nat) (h : k < zs.length) : zs.take (k + 1) = zs.take k ++ [zs.getD k 0] := by
  rw [List.take_add_one, List.getElem?_eq_getElem h]
  simp [List.getD, h]

theorem conv_one (c : UInt8) (w : World) :
    (convert 68 9 (.slice (some ⟨w.heap.size, 0, none⟩) 1 1)).run Try.prog (w.alloc (.cells #[.int .u8 (c.toNat : Int)] 5)) = .ok (.string (str [c])) (w.alloc (.cells #[.int .u8 (c.toNat : Int)] 5)) := by
  have hcell : ((w.alloc (.cells #[.int .u8 (c.toNat : Int)] 5))).cell? ⟨w.heap.size, 0, none⟩ = some (.int .u8 (c.toNat : Int)) := (Boxed.new w 5 _).cell
  exact run_convert_bytes_back (P := Try.prog) _ 68 9 5 ⟨w.heap.size, 0, none⟩ 1 [c] Try.underlying68 Try.underlying5 Try.underlying9 (fun j hj => by
    have : j = 0 := by simpa using hj
    subst this
    exact hcell)

set_option maxHeartbeats 4000000 in
theorem take_own {w : World} {b : Nat} {P : List UInt8} {f : Bool} (ho : NfaAt w b P f) (hP : P.length ≤ 900000) (hns : noSt P) {v : Value} {zs : List Int} (hv : Ints w v zs) (hz : zs.length ≤ 1000000) (c : UInt8) :
    Calls Try.prog 42 #[.pointer (some ⟨b, 0, none⟩), v, .int .u8 (c.toNat : Int)] w fun e w' => ∃ v', e = .returned v' ∧ w'.ownsRow w.heap.size 3 1 v' (intsF (P.length + 1) (stepF (cntL f P) (cntC f c) (inL zs))).length ((intsF (P.length + 1) (stepF (cntL f P) (cntC f c) (inL zs))).map (Value.int .i64)) ∧ Below w.heap.size w w' := by
  obtain ⟨B, hB⟩ : ∃ B, cntL f P = B := ⟨_, rfl⟩
  obtain ⟨d, hd⟩ : ∃ d, cntC f c = d := ⟨_, rfl⟩
  have hmk := make_set (P.length + 1) (by omega)
  rw [show ((P.length + 1 : Nat) : Int) = (P.length : Int) + 1 from rfl] at hmk
  have C := Lib.hid (isMade_any ho)
  have C1 := Lib.hid (sizes_any ho (by omega))
  have C2 : Hid (∀ W, NfaAt W b P f → Calls Try.prog 22 #[.pointer (some ⟨b, 0, none⟩), .string (str [c])] W fun e w' => e = .returned (.string (str [d])) ∧ Below W.heap.size W w') := Lib.hid (fun W h => by
    have := counted_any h.c2 (str [c]) (by rw [str_size]; simp)
    rwa [str_data, cnt_one, hd] at this)
  have C3 : Hid (∀ (W : World) (s : Nat) (g : Nat → Bool), NfaAt W b P f → SetAt W s (P.length + 1) g → Calls Try.prog 58 #[.slice (some ⟨s, 0, none⟩) (P.length + 1) (P.length + 1), .string (str [d]), .func (.func 59) #[.pointer (some ⟨b, 0, none⟩)] #[]] W fun e w' =>
      ∃ r, e = .returned (.slice (some ⟨r, 0, none⟩) (P.length + 1) (P.length + 1)) ∧ SetAt w' r (P.length + 1) (stepF B d g) ∧ OnlyAt s W.heap.size W w' ∧ (r = s ∨ W.heap.size ≤ r)) := Lib.hid (fun W s g h1 h2 => by
    have := walk_any (str [d]) (by rw [str_size]; simp) h1 hP hns h2
    rwa [str_data, hB, runF_cons] at this)
  have C4 := Lib.hid (fun (s : Nat) w => states_any (some ⟨s, 0, none⟩) (P.length + 1) (P.length + 1) w)
  have C5 : Hid (∀ (W : World) (s : Nat) (g : Nat → Bool), SetAt W s (P.length + 1) g → Calls Try.prog 38 #[.func (.func 57) #[] #[.pointer (some ⟨W.heap.size, 0, none⟩)]] (W.alloc (.cells #[.slice (some ⟨s, 0, none⟩) (P.length + 1) (P.length + 1)] 83)) fun e W' =>
      ∃ v, e = .returned v ∧ W'.ownsRow W.heap.size 3 1 v (intsF (P.length + 1) g).length ((intsF (P.length + 1) g).map (Value.int .i64)) ∧ Below W.heap.size W W') := Lib.hid (fun W s g hs => by
    refine (collect_any W.heap.size s (P.length + 1) g (by omega) (W.alloc (.cells #[.slice (some ⟨s, 0, none⟩) (P.length + 1) (P.length + 1)] 83)) (by simp) (Boxed.new W 83 _).cell (World.rowIs.alloc hs _)).mono ?_
    rintro e W' ⟨v, rfl, hr, hb⟩
    have h4 := (Below.refl W.heap.size W).alloc (Nat.le_refl _) (.cells #[.slice (some ⟨s, 0, none⟩) (P.length + 1) (P.length + 1)] 83)
    exact ⟨v, rfl, own_base hr (by simp), h4.trans (hb.mono h4.size)⟩)
  rw [hB, hd]
  clear hB hd
  have hconv := conv_one c
  have hmf : ∀ (fn : Fn) (first cap : Array Value) (w : World), (Instr.makeFunc fn first cap).run Try.prog w = .ok (.func fn first cap) w := fun _ _ _ _ => rfl
  have hs0 := Lib.hid ((set_made w (P.length + 1)).congr (h := inL (zs.take 0)) (fun i _ => by simp [inL]))
  have hb0 := Lib.hid ((Below.refl w.heap.size w).alloc (Nat.le_refl _) (.cells (madeCells #[.bool false] (P.length + 1)) 4))
  obtain ⟨a, cap, rfl, hcell⟩ := hv.reads
  go_enter Try.func42, Try.ntmps42
  go_wp2_with (go_at_call 37; refine C.out.mono ?_; rintro e w' ⟨rfl, rfl⟩)
  refine C1.out.mono ?_
  rintro e w2 ⟨rfl, rfl⟩
  go_wp2
  go_loopg [9, 19] zs.length (fun gk s9 s19 wr => ∃ k : Nat, k + gk = zs.length ∧ s19 = .int .i64 k ∧ Hid (SetAt wr w2.heap.size (P.length + 1) (inL (zs.take k))) ∧ Hid (Below w2.heap.size w2 wr))
  case atStart => exact ⟨0, by omega, rfl, hs0, hb0⟩
  case round =>
    obtain ⟨k, hkg, rfl, HS, HB⟩ := hrel
    clear hs0 hb0
    cases gk with
    | zero =>
      have hkz : ¬ ((k : Int) < (zs.length : Int)) := by omega
      have hkt : Hid (zs.take k = zs) := Lib.hid (List.take_of_length_le (by omega))
      have hs1 := HS.out
      rw [hkt.out] at hs1
      have hb1 := HB.out.alloc (w := wr) HB.out.size (.cells #[.int .u8 (c.toNat : Int)] 5)
      have ho1 := ho.below hb1 ho.lt
      replace hs1 : SetAt (wr.alloc (.cells #[.int .u8 (c.toNat : Int)] 5)) w2.heap.size (P.length + 1) (inL zs) := World.rowIs.alloc hs1 _
      replace hb1 := Lib.hid hb1
      replace hs1 := Lib.hid hs1
      replace ho1 := Lib.hid ho1
      go_wp2_with fail
      refine (C2.out _ ho1.out).mono ?_
      rintro e w3 ⟨rfl, hb3⟩
      have ho3 := ho1.out.below hb3 ho1.out.lt
      have hs3 := hs1.out.below hb3 hs1.out.lt
      replace hb3 := hb1.out.trans (hb3.mono hb1.out.size)
      clear hb1 hs1 ho1 HS HB hcell
      go_wp2_with fail
      refine (C3.out _ _ _ ho3 hs3).mono ?_
      rintro e w4 ⟨r, rfl, hs4, hon, hr⟩
      have hb4 := hb3.trans (hon.below (B' := w2.heap.size) (Nat.le_refl _) hb3.size)
      clear hs3 hon hb3 ho3
      have C6 := Lib.hid (C5.out _ _ _ hs4)
      go_wp2_with (go_at_call 40; refine (C4.out _ _).mono ?_; rintro e w5 ⟨rfl, rfl⟩)
      refine C6.out.mono ?_
      rintro e w5 ⟨v', rfl, hi5, hb5⟩
      have hb6 := hb4.trans (hb5.mono hb4.size)
      replace hi5 := Lib.hid (own_base hi5 hb4.size)
      clear hs4 hr
      go_wp2
      go_ret
      exact ⟨v', rfl, hi5.out, hb6⟩
    | succ g' =>
      have hkz : (k : Int) < (zs.length : Int) := by omega
      have hkn : k < zs.length := by omega
      obtain ⟨b', off, rfl, hc⟩ := hcell.out wr HB.out k hkn
      have hst : Hid (zs.take (k + 1) = zs.take k ++ [zs.getD k 0]) := Lib.hid (take_int zs k hkn)
      obtain ⟨x, hx⟩ : ∃ x, zs.getD k 0 = x := ⟨_, rfl⟩
      rw [hx] at hc hst
      clear hx
      clear hcell
      by_cases h0 : 0 ≤ x
      · obtain ⟨m, rfl⟩ : ∃ m : Nat, x = (m : Int) := ⟨x.toNat, by omega⟩
        by_cases hm : m < P.length + 1
        · have hcc := World.rowIs.cell HS.out (i := m) hm
          have hff := World.rowIs.frozen HS.out m
          have hmz : (m : Int) < (P.length : Int) + 1 := by omega
          go_wp2
          go_roundg g'
          case measure => omega
          case rel => exact ⟨k + 1, by omega, iv (by omega), Lib.hid ((HS.out.add m).congr (fun i _ => by
            rw [hst.out, inL_snoc]
            by_cases e : i = m
            · subst e; simp
            · have : ¬ ((m : Int) = (i : Int)) := by omega
              simp [e, this])), Lib.hid (HB.out.setCell (p := ⟨w2.heap.size, m, none⟩) (Nat.le_refl _) _)⟩
        · have hmz : ¬ ((m : Int) < (P.length : Int) + 1) := by omega
          go_wp2
          go_roundg g'
          case measure => omega
          case rel => exact ⟨k + 1, by omega, iv (by omega), Lib.hid (HS.out.congr (fun i hi => by
            rw [hst.out, inL_snoc]
            have : ¬ ((m : Int) = (i : Int)) := by omega
            simp [this])), HB⟩
      · go_wp2
        go_roundg g'
        case measure => omega
        case rel => exact ⟨k + 1, by omega, iv (by omega), Lib.hid (HS.out.congr (fun i hi => by
          rw [hst.out, inL_snoc]
          have : ¬ (x = (i : Int)) := by omega
          simp [this])), HB⟩
theorem take_any {w : World} {b : Nat} {P : List UInt8} {f : Bool} (ho : NfaAt w b P f) (hP : P.length ≤ 900000) (hns : noSt P) {v : Value} {zs : List Int} (hv : Ints w v zs) (hz : zs.length ≤ 1000000) (c : UInt8) :
    Calls Try.prog 42 #[.pointer (some ⟨b, 0, none⟩), v, .int .u8 (c.toNat : Int)] w fun e w' => ∃ v', e = .returned v' ∧ Ints w' v' (intsF (P.length + 1) (stepF (cntL f P) (cntC f c) (inL zs))) ∧ Below w.heap.size w w' :=
  (take_own ho hP hns hv hz c).mono (fun _ _ ⟨v, h1, h2, h3⟩ => ⟨v, h1, Ints.of_own h2, h3⟩)
end Go.Proofs.Ytchobpfdmkgnoaa
