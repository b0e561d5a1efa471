/-
  What is proved: outlawkit.LightTexts of any list of strings and any two bounds, outlawlaw09.light of a glob and a list. The world stands as it stood.
-/
import Derived.Test.YtnpgmekgmelamaaGreatDfLess
namespace Go.Proofs.YtnpgmekgmelamaaGreat
open Go.RowKit Go.Shelf Go.Maps

/-- A list of strings in memory. -/
def StrsAt (W : World) (v : Value) (l : List ByteArray) : Prop := ∃ a cap, v = .slice a l.length cap ∧ ∀ j x, l[j]? = some x → ∃ b off, a = some ⟨b, off, none⟩ ∧ b < W.heap.size ∧ W.cell? ⟨b, off + j, none⟩ = some (.string x)
theorem StrsAt.below {W W' : World} {v : Value} {l : List ByteArray} (h : StrsAt W v l) (hb : Below W.heap.size W W') : StrsAt W' v l := by
  obtain ⟨a, cap, e, h⟩ := h
  refine ⟨a, cap, e, fun j x hx => ?_⟩
  obtain ⟨b, off, e2, h1, h2⟩ := h j x hx
  exact ⟨b, off, e2, by have := hb.size; omega, by rw [World.cell?_of_block (w := W) (hb.block b h1)]; exact h2⟩

def lightT (l : List ByteArray) (most bytes : Nat) : Bool := l.all (fun s => decide (s.size ≤ bytes)) && decide (l.length ≤ most)

set_option maxRecDepth 100000 in
set_option maxHeartbeats 1000000 in
theorem texts_all {w : World} {v : Value} {l : List ByteArray} (most bytes : Nat) (h : StrsAt w v l) (hn : l.length ≤ 9223372036854775807) :
    Calls Tryz.prog 43 #[v, .int .i64 (most : Int), .int .i64 (bytes : Int)] w fun e w' => e = .returned (.bool (lightT l most bytes)) ∧ w' = w := by
  obtain ⟨a, cap, rfl, h⟩ := h
  go_enter Tryz.func43, Tryz.ntmps43
  go_wp2
  go_loopg [7] l.length (fun gk s7 wr => ∃ j : Nat, j + gk = l.length ∧ s7 = .int .i64 j ∧ Hid (wr = w) ∧ Hid ((l.take j).all (fun s => decide (s.size ≤ bytes)) = true))
  case atStart => exact ⟨0, by omega, rfl, Lib.hid rfl, Lib.hid rfl⟩
  case round =>
    obtain ⟨j, hjg, rfl, HW, HA⟩ := hrel
    by_cases hj : j < l.length
    · have hjz : (j : Int) < (l.length : Int) := by omega
      obtain ⟨b, off, ea, hb, hc⟩ := h j l[j] (List.getElem?_eq_getElem hj)
      rw [← HW.out] at hc
      obtain ⟨y, hy⟩ : ∃ y, l[j] = y := ⟨_, rfl⟩
      rw [hy] at hc
      subst ea
      have HN : Hid (¬ y.size ≤ bytes → lightT l most bytes = false) := Lib.hid (fun e => by
        unfold lightT
        have : l.all (fun s => decide (s.size ≤ bytes)) = false := by
          rw [List.all_eq_false]
          exact ⟨l[j], List.getElem_mem hj, by rw [hy, decide_eq_false e]; decide⟩
        rw [this]; rfl)
      have HS : Hid (y.size ≤ bytes → (l.take (j + 1)).all (fun s => decide (s.size ≤ bytes)) = true) := Lib.hid (fun e => by
        rw [List.take_add_one, List.getElem?_eq_getElem hj, hy, List.all_append, HA.out]
        simpa using e)
      clear h HA hy
      by_cases hp : y.size ≤ bytes
      · have hpz : ¬ (bytes : Int) < (y.size : Int) := by omega
        have HP := Lib.hid hp
        clear hp
        go_wp2
        go_roundg (l.length - (j + 1))
        case measure => omega
        case rel => exact ⟨j + 1, by omega, by go_num, HW, Lib.hid (HS.out HP.out)⟩
      · have hpz : (bytes : Int) < (y.size : Int) := by omega
        have HP := Lib.hid hp
        clear hp
        go_wp2
        refine bodyPost_ret (v := .bool false) (by simp [results, Tryz.results43, go_sem]) rfl ?_
        exact ⟨by rw [HN.out HP.out], HW.out⟩
    · have hjz : ¬ (j : Int) < (l.length : Int) := by omega
      obtain rfl : j = l.length := by omega
      have HE : Hid (lightT l most bytes = decide (l.length ≤ most)) := Lib.hid (by
        have := HA.out
        rw [List.take_length] at this
        unfold lightT
        rw [this]; rfl)
      clear HA h
      by_cases h6 : l.length ≤ most
      · have h6z : (l.length : Int) ≤ (most : Int) := by omega
        have H6 := Lib.hid h6
        clear h6
        go_wp2
        go_ret
        exact ⟨by rw [HE.out, decide_eq_true H6.out]; rfl, HW.out⟩
      · have h6z : ¬ (l.length : Int) ≤ (most : Int) := by omega
        have H6 := Lib.hid h6
        clear h6
        go_wp2
        go_ret
        exact ⟨by rw [HE.out, decide_eq_false H6.out]; rfl, HW.out⟩

theorem light_list {w : World} {v : Value} {l : List ByteArray} (p : ByteArray) (h : StrsAt w v l) (hn : l.length ≤ 9223372036854775807) :
    Calls Tryz.prog 9 #[.string p, v] w fun e w' => e = .returned (.bool (decide (p.size ≤ 60) && lightT l 20 200)) ∧ w' = w := by
  have C := Lib.hid (texts_all 20 200 h hn)
  obtain ⟨R, hR⟩ : ∃ R, lightT l 20 200 = R := ⟨_, rfl⟩
  obtain ⟨a, cap, rfl, _⟩ := h
  obtain ⟨n, hnn⟩ : ∃ n, l.length = n := ⟨_, rfl⟩
  rw [hR, hnn] at C
  rw [hR, hnn]
  clear hR hnn hn
  by_cases hp : p.size ≤ 60
  · have h1 : (p.size : Int) ≤ 60 := by omega
    rw [decide_eq_true hp, Bool.true_and]
    clear hp
    go_enter Tryz.func9, Tryz.ntmps9
    go_wp2_with (go_at_call 43; refine C.out.mono ?_; rintro e w' ⟨rfl, rfl⟩)
    go_ret
    exact ⟨rfl, rfl⟩
  · have h1 : ¬ ((p.size : Int) ≤ 60) := by omega
    rw [decide_eq_false hp, Bool.false_and]
    clear hp
    go_enter Tryz.func9, Tryz.ntmps9
    go_wp2
    go_ret
    exact ⟨rfl, rfl⟩
end Go.Proofs.YtnpgmekgmelamaaGreat
