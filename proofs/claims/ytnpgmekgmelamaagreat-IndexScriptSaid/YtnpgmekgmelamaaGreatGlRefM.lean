/-
  What is proved: what outlawref07.Match returns at any two strings of at most 1,000,000 bytes: the table of the document comes to GlMath's mt. What lay in memory before stands as it stood.
-/
import Derived.Test.YtnpgmekgmelamaaGreatGlRef
import Derived.Deep.OwnRows
import Derived.BigRegion
namespace Go.Proofs.YtnpgmekgmelamaaGreat
open Go.RowKit

theorem ref_bool : (Tryz.prog.info? 4).map (fun i => (i.zero, i.size, i.bytes)) = some (some (.bool false), 1, 1) := by kernel_rfl

/-- The two rows of the table: the one that is read, whole; the one that is written, its first k cells done. -/
structure Tab (w wi : World) (A N T : Nat) (F G : Nat → Bool) (k : Nat) : Prop where
  rowA : wi.rowIs A 4 (T + 1) (fun j => .bool (F j))
  rowN : wi.rowIs N 4 (T + 1) (fun j => .bool (if j < k then G j else false))
  ne : A ≠ N
  bel : Below w.heap.size w wi
  hA : w.heap.size ≤ A
  hN : w.heap.size ≤ N

theorem Tab.step {w wi : World} {A N T : Nat} {F G : Nat → Bool} {k : Nat} (h : Tab w wi A N T F G k) {v : Bool} (hv : v = G k) : Tab w (wi.setCell ⟨N, k, none⟩ (.bool v)) A N T F G (k + 1) := by
  refine ⟨h.rowA.setOther h.ne _, (h.rowN.set k _).congr (fun i _ => ?_), h.ne, h.bel.setCell (p := ⟨N, k, none⟩) h.hN _, h.hA, h.hN⟩
  by_cases e : i = k
  · subst e; simp [hv]
  · rw [if_neg e]
    by_cases hlt : i < k
    · rw [if_pos hlt, if_pos (by omega)]
    · rw [if_neg hlt, if_neg (by omega)]
theorem Tab.skip {w wi : World} {A N T : Nat} {F G : Nat → Bool} {k : Nat} (h : Tab w wi A N T F G k) (hv : G k = false) : Tab w wi A N T F G (k + 1) := by
  refine ⟨h.rowA, h.rowN.congr (fun i _ => ?_), h.ne, h.bel, h.hA, h.hN⟩
  by_cases e : i = k
  · subst e; simp [hv]
  · by_cases hlt : i < k
    · rw [if_pos hlt, if_pos (by omega)]
    · rw [if_neg hlt, if_neg (by omega)]
theorem Tab.drew {w wi : World} {A N T : Nat} {F G : Nat → Bool} {k : Nat} (h : Tab w wi A N T F G k) : Tab w wi.drew A N T F G k := ⟨h.rowA.drew, h.rowN.drew, h.ne, h.bel.drew, h.hA, h.hN⟩

theorem first_row (t : List UInt8) (k : Nat) (hk : k ≤ t.length) : mt false [] (t.take k) = decide (k = 0) := by
  cases k with
  | zero => rfl
  | succ n =>
    cases t with
    | nil => simp at hk
    | cons a t => rfl

set_option maxHeartbeats 8000000 in
set_option maxRecDepth 1000000 in
theorem table_core (p0 t0 p t : ByteArray) (f : Bool) (w : World) (hp : p.size ≤ 1000000) (ht : t.size ≤ 1000000)
    (h : (f = false ∧ p = p0 ∧ t = t0) ∨ (f = true ∧ (∀ w, Calls Tryz.prog 87 #[.string p0] w fun e w' => e = .returned (.string p) ∧ Below w.heap.size w w') ∧ (∀ w, Calls Tryz.prog 87 #[.string t0] w fun e w' => e = .returned (.string t) ∧ Below w.heap.size w w'))) :
    Calls Tryz.prog 73 #[.string p0, .string t0, .bool f] w fun e w' => e = .returned (.bool (mt false p.data.toList t.data.toList)) ∧ Below w.heap.size w w' := by
  have HP := Lib.hid (Lib.size_eq p)
  have HT := Lib.hid (Lib.size_eq t)
  obtain ⟨M, HM⟩ : ∃ M : Nat → Nat → Bool, Hid (∀ i k, M i k = mt false (p.data.toList.take i) (t.data.toList.take k)) := ⟨fun i k => mt false (p.data.toList.take i) (t.data.toList.take k), Lib.hid fun _ _ => rfl⟩
  have HR : Hid (mt false p.data.toList t.data.toList = M p.size t.size) := Lib.hid (by rw [HM.out, HP.out, HT.out, List.take_length, List.take_length])
  rw [HR.out]
  have hmk := run_make_row' (P := Tryz.prog) 24 4 (.bool false) 1 Tryz.underlying24 ref_bool rfl .i64 .i64 (t.size + 1) (by omega) (by omega)
  rw [show ((t.size + 1 : Nat) : Int) = (t.size : Int) + 1 from rfl] at hmk
  rcases h with ⟨rfl, rfl, rfl⟩ | ⟨rfl, c1, c2⟩
  · have HW1 : Hid (Below w.heap.size w w) := Lib.hid (Below.refl _ _)
    go_enter Tryz.func73, Tryz.ntmps73
    have row0 := World.rowIs_made w (.bool false) (t.size + 1) 4
    have z0 := row0.cell (i := 0) (by omega)
    have zf := row0.frozen 0
    go_wp2
    have HF0 : Hid (((w.alloc (.cells (madeCells #[.bool false] (t.size + 1)) 4)).setCell ⟨w.heap.size, 0, none⟩ (.bool true)).rowIs w.heap.size 4 (t.size + 1) (fun j => .bool (M 0 j))) :=
      Lib.hid ((row0.set 0 _).congr (fun i hi => by
        rw [HM.out, List.take_zero, first_row _ _ (by rw [← HT.out]; omega)]
        by_cases e : i = 0
        · rw [if_pos e, decide_eq_true e]
        · rw [if_neg e, decide_eq_false e]))
    have HB0 : Hid (Below w.heap.size w ((w.alloc (.cells (madeCells #[.bool false] (t.size + 1)) 4)).setCell ⟨w.heap.size, 0, none⟩ (.bool true))) :=
      Lib.hid ((HW1.out.alloc HW1.out.size _).setCell (p := ⟨w.heap.size, 0, none⟩) HW1.out.size _)
    clear row0 z0 zf
    have hw1s := HW1.out.size
    go_loopg [7, 8] p.size (fun gk s7 s8 wr => ∃ i A : Nat, i + gk = p.size ∧ s7 = .slice (some ⟨A, 0, none⟩) (t.size + 1) (t.size + 1) ∧ s8 = .int .i64 i ∧ w.heap.size ≤ A ∧ Hid (wr.rowIs A 4 (t.size + 1) (fun j => .bool (M i j))) ∧ Hid (Below w.heap.size w wr))
    case atStart => exact ⟨0, w.heap.size, by omega, rfl, rfl, hw1s, Lib.hid (by rw [← World.setCell_alloc_new]; exact HF0.out), Lib.hid (by rw [← World.setCell_alloc_new]; exact HB0.out)⟩
    case round =>
      obtain ⟨i, A, hig, rfl, rfl, hA, HF, HB⟩ := hrel
      clear HF0 HB0 hw1s
      cases gk with
      | zero =>
        have hiz : ¬ ((i : Int) < (p.size : Int)) := by omega
        have hi : i = p.size := by omega
        have cT := HF.out.cell (i := t.size) (by omega)
        rw [hi] at cT
        clear hmk
        go_wp2
        go_ret
        exact ⟨rfl, HB.out⟩
      | succ g0 =>
        have hiz : (i : Int) < (p.size : Int) := by omega
        have hin : i < p.size := by omega
        have hBs := HB.out.size
        have rowN0 := World.rowIs_made wr (.bool false) (t.size + 1) 4
        have hTab0 : Tab w (wr.alloc (.cells (madeCells #[.bool false] (t.size + 1)) 4)) A wr.heap.size t.size (M i) (M (i + 1)) 0 :=
          ⟨HF.out.alloc _, rowN0.congr (fun j _ => by simp), fun e => by have := HF.out.lt; omega, HB.out.alloc hBs _, hA, hBs⟩
        have HTab0 := Lib.hid hTab0
        clear hTab0 rowN0
        obtain ⟨c, hc⟩ : ∃ c : UInt8, p[i]'hin = c := ⟨_, rfl⟩
        have hstep : p.data.toList.take (i + 1) = p.data.toList.take i ++ [c] := by
          rw [List.take_add_one, List.getElem?_eq_getElem (by rw [← HP.out]; exact hin), ← hc]; rfl
        have HG : Hid (∀ k, M (i + 1) k = mt false (p.data.toList.take i ++ [c]) (t.data.toList.take k)) := Lib.hid fun k => by rw [HM.out, hstep]
        clear hstep
        go_wp2
        clear hmk
        obtain ⟨N, hN⟩ : ∃ N, N = wr.heap.size := ⟨_, rfl⟩
        rw [← hN] at HTab0
        rw [← hN]
        clear hN
        go_loopg [10] (t.size + 1) (fun gk s10 wi => ∃ k : Nat, k + gk = t.size + 1 ∧ s10 = .int .i64 k ∧ Hid (Tab w wi A N t.size (M i) (M (i + 1)) k))
        case atStart => exact ⟨0, by omega, rfl, HTab0⟩
        case round =>
          obtain ⟨k, hkg, rfl, HI⟩ := hrel
          clear HTab0 HF HB hBs
          cases gk with
          | zero =>
            have hkz : ¬ ((k : Int) ≤ (t.size : Int)) := by omega
            have HE : Hid (wr.rowIs N 4 (t.size + 1) (fun j => .bool (M (i + 1) j))) := Lib.hid (HI.out.rowN.congr (fun j hj => by rw [if_pos (by omega)]))
            have HNb := HI.out.hN
            go_wp2
            go_roundg g0
            case measure => omega
            case rel => exact ⟨i + 1, N, by omega, rfl, iv (by omega), HNb, HE, Lib.hid HI.out.bel⟩
          | succ g' =>
            have hkz : (k : Int) ≤ (t.size : Int) := by omega
            have n0 := HI.out.rowN.cell (i := k) (by omega)
            rw [if_neg (by omega)] at n0
            have nf := HI.out.rowN.frozen k
            by_cases h42 : c = 42
            · have e42 : (c.toNat : Int) = 42 := by rw [h42]; rfl
              have a0 := HI.out.rowA.cell (i := k) (by omega)
              cases k with
              | zero =>
                have HS : Hid (M (i + 1) 0 = M i 0) := Lib.hid (by rw [HG.out, HM.out, h42, List.take_zero]; exact row_star0 _)
                clear h42
                obtain ⟨x, hx⟩ : ∃ x, M i 0 = x := ⟨_, rfl⟩
                rw [hx] at a0 HS
                clear hx
                cases x
                all_goals
                  go_wp2
                  go_roundg g'
                  case measure => omega
                  case rel => exact ⟨0 + 1, by omega, iv (by omega), Lib.hid (HI.out.step HS.out.symm)⟩
              | succ j =>
                have HS : Hid (M (i + 1) (j + 1) = (M i (j + 1) || M (i + 1) j)) := Lib.hid (by rw [HG.out, HG.out, HM.out, h42]; exact row_star _ _ _ (by rw [← HT.out]; omega))
                have n1 := HI.out.rowN.cell (i := j) (by omega)
                rw [if_pos (by omega)] at n1
                clear h42
                obtain ⟨x, hx⟩ : ∃ x, M i (j + 1) = x := ⟨_, rfl⟩
                obtain ⟨y, hy⟩ : ∃ y, M (i + 1) j = y := ⟨_, rfl⟩
                rw [hx] at a0 HS
                rw [hy] at n1 HS
                clear hx hy
                have hj0 : (0 : Int) < (j : Int) + 1 := by omega
                have hj1 : ((j : Int) + 1 - 1) = (j : Int) := by omega
                cases x
                all_goals
                  go_wp2
                  go_roundg g'
                  case measure => omega
                  case rel => exact ⟨j + 1 + 1, by omega, iv (by omega), Lib.hid (HI.out.step (by rw [HS.out]; rfl))⟩
            · have e42 : ((c.toNat : Int) == 42) = false := by rw [beq_42]; simpa using h42
              cases k with
              | zero =>
                have HS : Hid (M (i + 1) 0 = false) := Lib.hid (by rw [HG.out, List.take_zero]; exact row_one0 _ _ h42)
                clear h42
                go_wp2
                go_roundg g'
                case measure => omega
                case rel => exact ⟨0 + 1, by omega, iv (by omega), Lib.hid (HI.out.skip HS.out)⟩
              | succ j =>
                have hjt : j < t.size := by omega
                have hjz : (j : Int) < (t.size : Int) := by omega
                have HS : Hid (M (i + 1) (j + 1) = (M i j && (c == 63 || c == t[j]'hjt))) := Lib.hid (by rw [HG.out, HM.out]; exact row_one _ _ h42 _ _ (by rw [← HT.out]; exact hjt))
                have a1 := HI.out.rowA.cell (i := j) (by omega)
                clear h42
                obtain ⟨x, hx⟩ : ∃ x, M i j = x := ⟨_, rfl⟩
                rw [hx] at a1 HS
                clear hx
                have hj0 : (0 : Int) < (j : Int) + 1 := by omega
                have hj1 : ((j : Int) + 1 - 1) = (j : Int) := by omega
                cases x with
                | false =>
                  go_wp2
                  go_region
                  all_goals
                    go_wp2
                    go_roundg g'
                    case measure => omega
                    case rel => exact ⟨j + 1 + 1, by omega, iv (by omega), Lib.hid (by first | exact HI.out.step (by rw [HS.out]; rfl) | exact (HI.out.step (by rw [HS.out]; rfl)).drew | exact HI.out.drew.step (by rw [HS.out]; rfl))⟩
                | true =>
                  by_cases h63 : c = 63
                  · have e63 : (c.toNat : Int) = 63 := by rw [h63]; rfl
                    have HS2 : Hid (true = M (i + 1) (j + 1)) := Lib.hid (by rw [HS.out, h63]; rfl)
                    have e42' : (((63 : Int)) == 42) = false := rfl
                    clear h63
                    go_wp2
                    go_region
                    all_goals
                      go_wp2
                      go_roundg g'
                      case measure => omega
                      case rel => exact ⟨j + 1 + 1, by omega, iv (by omega), Lib.hid (by first | exact HI.out.step HS2.out | exact (HI.out.step HS2.out).drew | exact HI.out.drew.step HS2.out)⟩
                  · have e63 : ((c.toNat : Int) == 63) = false := by rw [beq_63]; simpa using h63
                    have HS2 : Hid (((c.toNat : Int) == ((t[j]'hjt).toNat : Int)) = M (i + 1) (j + 1)) := Lib.hid (by
                      have : (c == 63) = false := by simpa using h63
                      rw [HS.out, this, byte_beq]; rfl)
                    clear h63
                    go_wp2
                    go_region
                    all_goals
                      go_wp2
                      go_roundg g'
                      case measure => omega
                      case rel => exact ⟨j + 1 + 1, by omega, iv (by omega), Lib.hid (by first | exact HI.out.step HS2.out | exact (HI.out.step HS2.out).drew | exact HI.out.drew.step HS2.out)⟩
  · have C1 := Lib.hid (c1 w)
    have C2 := Lib.hid c2
    clear c1 c2
    go_enter Tryz.func73, Tryz.ntmps73
    go_wp2_with fail
    refine C1.out.mono ?_
    rintro e w2 ⟨rfl, b2⟩
    go_wp2_with fail
    refine (C2.out w2).mono ?_
    rintro e w1 ⟨rfl, b1⟩
    have HW1 : Hid (Below w.heap.size w w1) := Lib.hid (b2.trans (b1.mono b2.size))
    clear C1 C2 b1 b2
    have row0 := World.rowIs_made w1 (.bool false) (t.size + 1) 4
    have z0 := row0.cell (i := 0) (by omega)
    have zf := row0.frozen 0
    go_wp2
    have HF0 : Hid (((w1.alloc (.cells (madeCells #[.bool false] (t.size + 1)) 4)).setCell ⟨w1.heap.size, 0, none⟩ (.bool true)).rowIs w1.heap.size 4 (t.size + 1) (fun j => .bool (M 0 j))) :=
      Lib.hid ((row0.set 0 _).congr (fun i hi => by
        rw [HM.out, List.take_zero, first_row _ _ (by rw [← HT.out]; omega)]
        by_cases e : i = 0
        · rw [if_pos e, decide_eq_true e]
        · rw [if_neg e, decide_eq_false e]))
    have HB0 : Hid (Below w.heap.size w ((w1.alloc (.cells (madeCells #[.bool false] (t.size + 1)) 4)).setCell ⟨w1.heap.size, 0, none⟩ (.bool true))) :=
      Lib.hid ((HW1.out.alloc HW1.out.size _).setCell (p := ⟨w1.heap.size, 0, none⟩) HW1.out.size _)
    clear row0 z0 zf
    have hw1s := HW1.out.size
    go_loopg [7, 8] p.size (fun gk s7 s8 wr => ∃ i A : Nat, i + gk = p.size ∧ s7 = .slice (some ⟨A, 0, none⟩) (t.size + 1) (t.size + 1) ∧ s8 = .int .i64 i ∧ w.heap.size ≤ A ∧ Hid (wr.rowIs A 4 (t.size + 1) (fun j => .bool (M i j))) ∧ Hid (Below w.heap.size w wr))
    case atStart => exact ⟨0, w1.heap.size, by omega, rfl, rfl, hw1s, Lib.hid (by rw [← World.setCell_alloc_new]; exact HF0.out), Lib.hid (by rw [← World.setCell_alloc_new]; exact HB0.out)⟩
    case round =>
      obtain ⟨i, A, hig, rfl, rfl, hA, HF, HB⟩ := hrel
      clear HF0 HB0 hw1s
      cases gk with
      | zero =>
        have hiz : ¬ ((i : Int) < (p.size : Int)) := by omega
        have hi : i = p.size := by omega
        have cT := HF.out.cell (i := t.size) (by omega)
        rw [hi] at cT
        clear hmk
        go_wp2
        go_ret
        exact ⟨rfl, HB.out⟩
      | succ g0 =>
        have hiz : (i : Int) < (p.size : Int) := by omega
        have hin : i < p.size := by omega
        have hBs := HB.out.size
        have rowN0 := World.rowIs_made wr (.bool false) (t.size + 1) 4
        have hTab0 : Tab w (wr.alloc (.cells (madeCells #[.bool false] (t.size + 1)) 4)) A wr.heap.size t.size (M i) (M (i + 1)) 0 :=
          ⟨HF.out.alloc _, rowN0.congr (fun j _ => by simp), fun e => by have := HF.out.lt; omega, HB.out.alloc hBs _, hA, hBs⟩
        have HTab0 := Lib.hid hTab0
        clear hTab0 rowN0
        obtain ⟨c, hc⟩ : ∃ c : UInt8, p[i]'hin = c := ⟨_, rfl⟩
        have hstep : p.data.toList.take (i + 1) = p.data.toList.take i ++ [c] := by
          rw [List.take_add_one, List.getElem?_eq_getElem (by rw [← HP.out]; exact hin), ← hc]; rfl
        have HG : Hid (∀ k, M (i + 1) k = mt false (p.data.toList.take i ++ [c]) (t.data.toList.take k)) := Lib.hid fun k => by rw [HM.out, hstep]
        clear hstep
        go_wp2
        clear hmk
        obtain ⟨N, hN⟩ : ∃ N, N = wr.heap.size := ⟨_, rfl⟩
        rw [← hN] at HTab0
        rw [← hN]
        clear hN
        go_loopg [10] (t.size + 1) (fun gk s10 wi => ∃ k : Nat, k + gk = t.size + 1 ∧ s10 = .int .i64 k ∧ Hid (Tab w wi A N t.size (M i) (M (i + 1)) k))
        case atStart => exact ⟨0, by omega, rfl, HTab0⟩
        case round =>
          obtain ⟨k, hkg, rfl, HI⟩ := hrel
          clear HTab0 HF HB hBs
          cases gk with
          | zero =>
            have hkz : ¬ ((k : Int) ≤ (t.size : Int)) := by omega
            have HE : Hid (wr.rowIs N 4 (t.size + 1) (fun j => .bool (M (i + 1) j))) := Lib.hid (HI.out.rowN.congr (fun j hj => by rw [if_pos (by omega)]))
            have HNb := HI.out.hN
            go_wp2
            go_roundg g0
            case measure => omega
            case rel => exact ⟨i + 1, N, by omega, rfl, iv (by omega), HNb, HE, Lib.hid HI.out.bel⟩
          | succ g' =>
            have hkz : (k : Int) ≤ (t.size : Int) := by omega
            have n0 := HI.out.rowN.cell (i := k) (by omega)
            rw [if_neg (by omega)] at n0
            have nf := HI.out.rowN.frozen k
            by_cases h42 : c = 42
            · have e42 : (c.toNat : Int) = 42 := by rw [h42]; rfl
              have a0 := HI.out.rowA.cell (i := k) (by omega)
              cases k with
              | zero =>
                have HS : Hid (M (i + 1) 0 = M i 0) := Lib.hid (by rw [HG.out, HM.out, h42, List.take_zero]; exact row_star0 _)
                clear h42
                obtain ⟨x, hx⟩ : ∃ x, M i 0 = x := ⟨_, rfl⟩
                rw [hx] at a0 HS
                clear hx
                cases x
                all_goals
                  go_wp2
                  go_roundg g'
                  case measure => omega
                  case rel => exact ⟨0 + 1, by omega, iv (by omega), Lib.hid (HI.out.step HS.out.symm)⟩
              | succ j =>
                have HS : Hid (M (i + 1) (j + 1) = (M i (j + 1) || M (i + 1) j)) := Lib.hid (by rw [HG.out, HG.out, HM.out, h42]; exact row_star _ _ _ (by rw [← HT.out]; omega))
                have n1 := HI.out.rowN.cell (i := j) (by omega)
                rw [if_pos (by omega)] at n1
                clear h42
                obtain ⟨x, hx⟩ : ∃ x, M i (j + 1) = x := ⟨_, rfl⟩
                obtain ⟨y, hy⟩ : ∃ y, M (i + 1) j = y := ⟨_, rfl⟩
                rw [hx] at a0 HS
                rw [hy] at n1 HS
                clear hx hy
                have hj0 : (0 : Int) < (j : Int) + 1 := by omega
                have hj1 : ((j : Int) + 1 - 1) = (j : Int) := by omega
                cases x
                all_goals
                  go_wp2
                  go_roundg g'
                  case measure => omega
                  case rel => exact ⟨j + 1 + 1, by omega, iv (by omega), Lib.hid (HI.out.step (by rw [HS.out]; rfl))⟩
            · have e42 : ((c.toNat : Int) == 42) = false := by rw [beq_42]; simpa using h42
              cases k with
              | zero =>
                have HS : Hid (M (i + 1) 0 = false) := Lib.hid (by rw [HG.out, List.take_zero]; exact row_one0 _ _ h42)
                clear h42
                go_wp2
                go_roundg g'
                case measure => omega
                case rel => exact ⟨0 + 1, by omega, iv (by omega), Lib.hid (HI.out.skip HS.out)⟩
              | succ j =>
                have hjt : j < t.size := by omega
                have hjz : (j : Int) < (t.size : Int) := by omega
                have HS : Hid (M (i + 1) (j + 1) = (M i j && (c == 63 || c == t[j]'hjt))) := Lib.hid (by rw [HG.out, HM.out]; exact row_one _ _ h42 _ _ (by rw [← HT.out]; exact hjt))
                have a1 := HI.out.rowA.cell (i := j) (by omega)
                clear h42
                obtain ⟨x, hx⟩ : ∃ x, M i j = x := ⟨_, rfl⟩
                rw [hx] at a1 HS
                clear hx
                have hj0 : (0 : Int) < (j : Int) + 1 := by omega
                have hj1 : ((j : Int) + 1 - 1) = (j : Int) := by omega
                cases x with
                | false =>
                  go_wp2
                  go_region
                  all_goals
                    go_wp2
                    go_roundg g'
                    case measure => omega
                    case rel => exact ⟨j + 1 + 1, by omega, iv (by omega), Lib.hid (by first | exact HI.out.step (by rw [HS.out]; rfl) | exact (HI.out.step (by rw [HS.out]; rfl)).drew | exact HI.out.drew.step (by rw [HS.out]; rfl))⟩
                | true =>
                  by_cases h63 : c = 63
                  · have e63 : (c.toNat : Int) = 63 := by rw [h63]; rfl
                    have HS2 : Hid (true = M (i + 1) (j + 1)) := Lib.hid (by rw [HS.out, h63]; rfl)
                    have e42' : (((63 : Int)) == 42) = false := rfl
                    clear h63
                    go_wp2
                    go_region
                    all_goals
                      go_wp2
                      go_roundg g'
                      case measure => omega
                      case rel => exact ⟨j + 1 + 1, by omega, iv (by omega), Lib.hid (by first | exact HI.out.step HS2.out | exact (HI.out.step HS2.out).drew | exact HI.out.drew.step HS2.out)⟩
                  · have e63 : ((c.toNat : Int) == 63) = false := by rw [beq_63]; simpa using h63
                    have HS2 : Hid (((c.toNat : Int) == ((t[j]'hjt).toNat : Int)) = M (i + 1) (j + 1)) := Lib.hid (by
                      have : (c == 63) = false := by simpa using h63
                      rw [HS.out, this, byte_beq]; rfl)
                    clear h63
                    go_wp2
                    go_region
                    all_goals
                      go_wp2
                      go_roundg g'
                      case measure => omega
                      case rel => exact ⟨j + 1 + 1, by omega, iv (by omega), Lib.hid (by first | exact HI.out.step HS2.out | exact (HI.out.step HS2.out).drew | exact HI.out.drew.step HS2.out)⟩

theorem refMatch (p t : ByteArray) (f : Bool) (w : World) (hp : p.size ≤ 1000000) (ht : t.size ≤ 1000000) :
    Calls Tryz.prog 73 #[.string p, .string t, .bool f] w fun e w' => e = .returned (.bool (mt f p.data.toList t.data.toList)) ∧ Below w.heap.size w w' := by
  cases f with
  | false => exact table_core p t p t false w hp ht (.inl ⟨rfl, rfl, rfl⟩)
  | true =>
    have hs : ∀ s : ByteArray, (str (foldL s.data.toList)).size = s.size := fun s => by rw [str_size, Lib.size_eq]; simp [foldL]
    have := table_core p t (str (foldL p.data.toList)) (str (foldL t.data.toList)) true w (by rw [hs]; exact hp) (by rw [hs]; exact ht) (.inr ⟨rfl, fun w => refFold p w hp, fun w => refFold t w ht⟩)
    rw [str_data, str_data, ← mt_fold] at this
    exact this
end Go.Proofs.YtnpgmekgmelamaaGreat
