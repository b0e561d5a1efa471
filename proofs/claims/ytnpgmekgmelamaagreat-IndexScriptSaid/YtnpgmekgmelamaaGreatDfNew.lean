/-
  What is proved: what dfa.newBuilder returns: a builder in memory that knows each byte's class and no set; taken that slices.Sort sorts. What lay in memory before stands as it stood.
-/
import Derived.Test.YtnpgmekgmelamaaGreatDfLet
import Derived.Test.YtnpgmekgmelamaaGreatDfRowC
namespace Go.Proofs.YtnpgmekgmelamaaGreat
open Go.RowKit Go.Shelf Go.Maps

/-! The class of a byte, as strings.Index finds it -/
theorem index_mem (l : List UInt8) (c : UInt8) : Lib.indexByte l c = if c ∈ l then (l.idxOf c : Int) else -1 := by
  induction l with
  | nil => rfl
  | cons b l ih =>
    unfold Lib.indexByte
    by_cases e : b = c
    · subst e; simp
    · have h1 : (b == c) = false := by simpa using e
      rw [if_neg (by rw [h1]; exact Bool.false_ne_true), ih, List.idxOf_cons, h1]
      by_cases hm : c ∈ l
      · have : c ∈ b :: l := by simp [hm]
        rw [if_pos hm, if_pos this, if_neg (by simp)]
        rfl
      · have : c ∉ b :: l := by
          intro h
          rcases List.mem_cons.1 h with h | h
          · exact e h.symm
          · exact hm h
        rw [if_neg hm, if_neg this]
        decide
/-! The builder as it is built -/
def bldZero : Array Value := #[.pointer none, .string ⟨#[]⟩, .string ⟨#[]⟩] ++ Array.replicate 256 (.int .i64 0) ++ #[.map none, .slice none 0 0]
set_option maxRecDepth 100000 in
theorem zero_bld : Tryz.zeroCells130 = bldZero := by kernel_rfl
theorem bld_new (nb : Nat) (P SA : List UInt8) (m : Nat) : BldC ((((Tryz.zeroCells130.setIfInBounds 0 (.pointer (some ⟨nb, 0, none⟩))).setIfInBounds 1 (.string (str P))).setIfInBounds 2 (.string (str SA))).setIfInBounds 259 (.map (some m))) nb P SA (fun _ => 0) m (.slice none 0 0) := by
  rw [zero_bld]
  have hz : bldZero.size = 261 := by simp [bldZero]
  refine ⟨by simp [hz], ?_, ?_, ?_, fun i hi => ?_, ?_, ?_⟩
  · simp [hz]
  · simp [hz]
  · simp [hz]
  · rw [Array.getElem?_setIfInBounds_ne (by omega), Array.getElem?_setIfInBounds_ne (by omega), Array.getElem?_setIfInBounds_ne (by omega), Array.getElem?_setIfInBounds_ne (by omega)]
    unfold bldZero
    rw [Array.getElem?_append_left (by simp; omega), Array.getElem?_append_right (by simp)]
    simp [hi]
  · simp [hz]
  · rw [Array.getElem?_setIfInBounds_ne (by decide), Array.getElem?_setIfInBounds_ne (by decide), Array.getElem?_setIfInBounds_ne (by decide), Array.getElem?_setIfInBounds_ne (by decide)]
    unfold bldZero
    rw [Array.getElem?_append_right (by simp)]
    simp

/-- The classes of the bytes below k. -/
def clsTo (f : Bool) (SA : List UInt8) (k : Nat) (j : Nat) : Nat := if j < k then clsL SA (cntC f (UInt8.ofNat j)) else 0
theorem clsTo_next (f : Bool) (SA : List UInt8) (c : UInt8) (j : Nat) : (if j = c.toNat then clsL SA (cntC f c) else clsTo f SA c.toNat j) = clsTo f SA (c.toNat + 1) j := by
  unfold clsTo
  by_cases e : j = c.toNat
  · subst e; rw [if_pos rfl, if_pos (Nat.lt_succ_self _), UInt8.ofNat_toNat]
  · rw [if_neg e]
    by_cases h : j < c.toNat
    · rw [if_pos h, if_pos (by omega)]
    · rw [if_neg h, if_neg (by omega)]
theorem BldC.congr {c : Array Value} {nb : Nat} {P SA : List UInt8} {cl cl' : Nat → Nat} {m : Nat} {sv : Value} (h : BldC c nb P SA cl m sv) (e : ∀ i, i < 256 → cl i = cl' i) : BldC c nb P SA cl' m sv :=
  ⟨h.size, h.c0, h.c1, h.c2, fun i hi => by rw [← e i hi]; exact h.cls i hi, h.c4, h.c5⟩
theorem BldAt.congr {W : World} {b nb : Nat} {P SA : List UInt8} {cl cl' : Nat → Nat} {m : Nat} {sv : Value} (h : BldAt W b nb P SA cl m sv) (e : ∀ i, i < 256 → cl i = cl' i) : BldAt W b nb P SA cl' m sv := by
  obtain ⟨c, hc, h⟩ := h; exact ⟨c, hc, h.congr e⟩

theorem plain_any (s : ByteArray) (w : World) : Calls Tryz.prog 108 #[.string s] w fun e w' => e = .returned (.string s) ∧ w' = w := by
  go_enter Tryz.func108, Tryz.ntmps108
  go_wp2
  go_ret
  exact ⟨rfl, rfl⟩

set_option maxRecDepth 100000 in
set_option maxHeartbeats 8000000 in
theorem newBuilder_fold {w : World} {nb : Nat} {P : List UInt8} (ho : NfaAt w nb P true) (hP : P.length ≤ 255) (HS : SortsN ((cntL true P).filter fun c => !wildC c).length) :
    Calls Tryz.prog 81 #[.pointer (some ⟨nb, 0, none⟩)] w fun e w' => ∃ b m, e = .returned (.pointer (some ⟨b, 0, none⟩)) ∧ w.heap.size ≤ b ∧ w.heap.size ≤ m ∧ b ≠ m ∧ BldAt w' b nb P (sampL (cntL true P)) (clsTo true (sampL (cntL true P)) 256) m (.slice none 0 0) ∧ w'.heap[m]? = some (.map #[] 0) ∧ Below w.heap.size w w' := by
  obtain ⟨B, hB⟩ : ∃ B, cntL true P = B := ⟨_, rfl⟩
  have hBl : B.length ≤ 255 := by rw [← hB, cntL_len]; exact hP
  rw [hB] at HS
  have C1 := Lib.hid (pattern_any ho (by omega))
  have C2 : Hid (∀ W, Calls Tryz.prog 109 #[.string (str B)] W fun e w' => e = .returned (.string (str (letL B))) ∧ Below W.heap.size W w') := Lib.hid (fun W => letters_any B W (by omega) HS)
  have CF : Hid (∀ W (l : List UInt8), l.length ≤ 1000 → Calls Tryz.prog 70 #[.string (str l)] W fun e w' => e = .returned (.string (str (cntL true l))) ∧ Below W.heap.size W w') := Lib.hid (fun W l hs => by have := fold_any (str l) W (by rw [str_size]; omega); rwa [str_data] at this)
  have hmm := @run_makeMap Tryz.prog
  obtain ⟨S2, hS2⟩ : ∃ S2, str (letL B) = S2 := ⟨_, rfl⟩
  have hS2z : S2.size ≤ 255 := by rw [← hS2, str_size]; exact Nat.le_trans (letL_len B) hBl
  have HA : Hid (({ data := #[42] } : ByteArray) ++ S2 = str (sampL B)) := Lib.hid (by
    rw [← hS2]; rfl)
  rw [hS2] at C2
  rw [hB]
  have CF1 : Hid (∀ W, Calls Tryz.prog 70 #[.string (str P)] W fun e w' => e = .returned (.string (str B)) ∧ Below W.heap.size W w') := Lib.hid (fun W => by
    have := CF.out W P (by omega)
    rwa [hB] at this)
  have CI : Hid (∀ W (d : UInt8), Calls Tryz.prog 110 #[.string (str (sampL B)), .string (str [d])] W fun e w' => e = .returned (.int .i64 (Lib.indexByte (sampL B) d)) ∧ w' = W) := Lib.hid (fun W d => by
    have := Tryz.strings_Index_one (str (sampL B)) d W
    rwa [str_data] at this)
  have HIX : Hid (∀ d, Lib.indexByte (sampL B) d = if d ∈ sampL B then ((sampL B).idxOf d : Int) else -1) := Lib.hid (index_mem _)
  have HN : Hid (∀ m, BldC ((((Tryz.zeroCells130.setIfInBounds 0 (.pointer (some ⟨nb, 0, none⟩))).setIfInBounds 1 (.string (str P))).setIfInBounds 2 (.string (str (sampL B)))).setIfInBounds 259 (.map (some m))) nb P (sampL B) (fun _ => 0) m (.slice none 0 0)) := Lib.hid (fun m => bld_new nb P (sampL B) m)
  have hbw := byte_wrap
  clear HS hB ho hS2
  go_enter Tryz.func81, Tryz.ntmps81
  go_wp2_with fail
  refine C1.out.mono ?_
  rintro e w1 ⟨rfl, hb1⟩
  go_wp2_with fail
  refine (CF1.out _).mono ?_
  rintro e w2 ⟨rfl, hb2⟩
  go_wp2_with fail
  refine (C2.out _).mono ?_
  rintro e w3 ⟨rfl, hb3⟩
  go_wp2
  rw [HA.out]
  have hb13 : Below w.heap.size w w3 := hb1.trans ((hb2.trans (hb3.mono hb2.size)).mono hb1.size)
  have HW4 : Hid (BldAt ((w3.alloc (Obj.map #[] 0)).alloc (Obj.cells ((((Tryz.zeroCells130.setIfInBounds 0 (Value.pointer (some ⟨nb, 0, none⟩))).setIfInBounds 1 (Value.string (str P))).setIfInBounds 2 (Value.string (str (sampL B)))).setIfInBounds 259 (Value.map (some w3.heap.size))) 130)) (w3.heap.size + 1) nb P (sampL B) (fun _ => 0) w3.heap.size (.slice none 0 0) ∧
      ((w3.alloc (Obj.map #[] 0)).alloc (Obj.cells ((((Tryz.zeroCells130.setIfInBounds 0 (Value.pointer (some ⟨nb, 0, none⟩))).setIfInBounds 1 (Value.string (str P))).setIfInBounds 2 (Value.string (str (sampL B)))).setIfInBounds 259 (Value.map (some w3.heap.size))) 130)).heap[w3.heap.size]? = some (.map #[] 0) ∧
      Below w.heap.size w ((w3.alloc (Obj.map #[] 0)).alloc (Obj.cells ((((Tryz.zeroCells130.setIfInBounds 0 (Value.pointer (some ⟨nb, 0, none⟩))).setIfInBounds 1 (Value.string (str P))).setIfInBounds 2 (Value.string (str (sampL B)))).setIfInBounds 259 (Value.map (some w3.heap.size))) 130))) := Lib.hid (by
    refine ⟨⟨_, ?_, HN.out w3.heap.size⟩, ?_, (hb13.alloc hb13.size _).alloc (by have := hb13.size; simp; omega) _⟩
    · have := World.alloc_heap_new (w3.alloc (Obj.map #[] 0)) (Obj.cells ((((Tryz.zeroCells130.setIfInBounds 0 (Value.pointer (some ⟨nb, 0, none⟩))).setIfInBounds 1 (Value.string (str P))).setIfInBounds 2 (Value.string (str (sampL B)))).setIfInBounds 259 (Value.map (some w3.heap.size))) 130)
      rwa [World.size_alloc] at this
    · rw [Below.heap_alloc _ _ _ (by simp)]
      exact World.alloc_heap_new w3 (Obj.map #[] 0))
  obtain ⟨W4, hW4⟩ : ∃ W4, ((w3.alloc (Obj.map #[] 0)).alloc (Obj.cells ((((Tryz.zeroCells130.setIfInBounds 0 (Value.pointer (some ⟨nb, 0, none⟩))).setIfInBounds 1 (Value.string (str P))).setIfInBounds 2 (Value.string (str (sampL B)))).setIfInBounds 259 (Value.map (some w3.heap.size))) 130)) = W4 := ⟨_, rfl⟩
  rw [hW4] at HW4
  rw [hW4]
  obtain ⟨cc, hcc⟩ : ∃ cc, (((Tryz.zeroCells130.setIfInBounds 0 (Value.pointer (some ⟨nb, 0, none⟩))).setIfInBounds 1 (Value.string (str P))).setIfInBounds 2 (Value.string (str (sampL B)))).setIfInBounds 259 (Value.map (some w3.heap.size)) = cc := ⟨_, rfl⟩
  rw [hcc]
  have hm3 : w.heap.size ≤ w3.heap.size := hb13.size
  obtain ⟨m, hm⟩ : ∃ m, w3.heap.size = m := ⟨_, rfl⟩
  rw [hm] at HW4 hm3
  rw [hm]
  clear hW4 hcc hm HN HA hb1 hb2 hb3 hb13 C1 C2 CF1 hmm
  go_loopg [8, 9, 27] 256 (fun gk s8 s9 s27 wr => ∃ k : Nat, k + gk = 256 ∧ s27 = .int .i64 k ∧ Hid (BldAt wr (m + 1) nb P (sampL B) (clsTo true (sampL B) k) m (.slice none 0 0)) ∧ Hid (wr.heap[m]? = some (.map #[] 0)) ∧ Hid (Below w.heap.size w wr))
  case atStart => exact ⟨0, by omega, rfl, Lib.hid (HW4.out.1.congr (fun i _ => by simp [clsTo])), Lib.hid HW4.out.2.1, Lib.hid HW4.out.2.2⟩
  case round =>
    obtain ⟨k, hkg, rfl, HO, HM, HB⟩ := hrel
    clear HW4
    cases gk with
    | zero =>
      have hkz : ¬ ((k : Int) < 256) := by omega
      have hk : k = 256 := by omega
      go_wp2
      go_ret
      exact ⟨m + 1, rfl, by omega, m, hm3, by omega, hk ▸ HO.out, HM.out, HB.out⟩
    | succ g' =>
      have hkz : (k : Int) < 256 := by omega
      obtain ⟨c, rfl⟩ : ∃ c : UInt8, k = c.toNat := ⟨UInt8.ofNat k, by rw [UInt8.toNat_ofNat']; omega⟩
      have hconv := conv_one c
      obtain ⟨d, hd⟩ : ∃ d, cntC true c = d := ⟨_, rfl⟩
      have CF2 : Hid (∀ W, Calls Tryz.prog 70 #[.string (str [c])] W fun e w' => e = .returned (.string (str [d])) ∧ Below W.heap.size W w') := Lib.hid (fun W => by
        have := CF.out W [c] (by simp)
        rwa [cnt_one, hd] at this)
      have hba : Below wr.heap.size wr (wr.alloc (.cells #[.int .u8 (c.toNat : Int)] 5)) := (Below.refl _ _).alloc (Nat.le_refl _) _
      replace hba := Lib.hid hba
      have HCL : Hid (∀ j, (if j = c.toNat then clsL (sampL B) d else clsTo true (sampL B) c.toNat j) = clsTo true (sampL B) (c.toNat + 1) j) := Lib.hid (fun j => by rw [← hd]; exact clsTo_next true (sampL B) c j)
      have HCD : Hid (clsL (sampL B) d = if d ∈ sampL B then (sampL B).idxOf d else 0) := Lib.hid rfl
      clear hd
      go_wp2_with fail
      refine (CF2.out _).mono ?_
      rintro e w5 ⟨rfl, hb5⟩
      have hb6 : Below wr.heap.size wr w5 := hba.out.trans (hb5.mono hba.out.size)
      have hml : m + 1 < wr.heap.size := HO.out.lt
      have hO5 := HO.out.same (hb6.block (m + 1) hml)
      have hM5 := Lib.hid ((hb6.block m (by omega)).trans HM.out)
      have hB5 := Lib.hid (HB.out.trans (hb6.mono HB.out.size))
      have ccl := hO5.cls (i := c.toNat) (by omega)
      have fcl := hO5.fz (3 + c.toNat)
      replace hO5 := Lib.hid hO5
      have HNX : Hid (∀ (W : World), W.heap = w5.heap → W.os = w5.os → W.tape = w5.tape → W.output = w5.output → Hid (BldAt (W.setCell ⟨m + 1, 3 + c.toNat, none⟩ (.int .i64 ((clsL (sampL B) d : Nat) : Int))) (m + 1) nb P (sampL B) (clsTo true (sampL B) (c.toNat + 1)) m (.slice none 0 0)) ∧ Hid ((W.setCell ⟨m + 1, 3 + c.toNat, none⟩ (.int .i64 ((clsL (sampL B) d : Nat) : Int))).heap[m]? = some (.map #[] 0)) ∧ Hid (Below w.heap.size w (W.setCell ⟨m + 1, 3 + c.toNat, none⟩ (.int .i64 ((clsL (sampL B) d : Nat) : Int))))) := Lib.hid (fun W e1 e2 e3 e4 => by
        have hO : BldAt W (m + 1) nb P (sampL B) (clsTo true (sampL B) c.toNat) m (.slice none 0 0) := hO5.out.same (by rw [e1])
        refine ⟨Lib.hid ((hO.putCls (i := c.toNat) (k := clsL (sampL B) d) (by omega)).congr (fun i _ => HCL.out i)), Lib.hid ?_, Lib.hid ?_⟩
        · rw [Below.heap_setCell _ _ _ _ (by show m ≠ m + 1; omega), e1]; exact hM5.out
        · have hbW : Below w.heap.size w W := ⟨e2.trans hB5.out.os, e3.trans hB5.out.tape, e4.trans hB5.out.output, by rw [e1]; exact hB5.out.size, fun q hq => by rw [e1]; exact hB5.out.block q hq⟩
          exact hbW.setCell (p := ⟨m + 1, 3 + c.toNat, none⟩) (by show w.heap.size ≤ m + 1; omega) _)
      have hix := HIX.out d
      have CI2 := Lib.hid (fun W => CI.out W d)
      by_cases hdm : d ∈ sampL B
      · rw [if_pos hdm] at hix
        have hcd := HCD.out
        rw [if_pos hdm] at hcd
        rw [hcd] at HNX
        rw [hix] at CI2
        obtain ⟨q, hq⟩ : ∃ q : Nat, (sampL B).idxOf d = q := ⟨_, rfl⟩
        rw [hq] at CI2 HNX
        have hq0 : ¬ ((q : Int) < 0) := by omega
        clear hq hcd hix hdm hB5 hM5 hO5 HCL HCD HO HM HB CF2 hba hb5 hb6 hconv CI CF HIX
        go_wp2
        go_region_with (go_at_call 110; refine (CI2.out _).mono ?_; rintro e w' ⟨rfl, rfl⟩)
        all_goals
          go_wp2
          go_roundg g'
          case measure => omega
          case rel =>
            refine ⟨c.toNat + 1, by omega, iv (by omega), ?_⟩
            first
              | exact HNX.out _ rfl rfl rfl rfl
              | exact HNX.out (World.drew _) rfl rfl rfl rfl
      · rw [if_neg hdm] at hix
        have hcd := HCD.out
        rw [if_neg hdm] at hcd
        rw [hcd] at HNX
        rw [hix] at CI2
        clear hcd hix hdm hB5 hM5 hO5 HCL HCD HO HM HB CF2 hba hb5 hb6 hconv CI CF HIX
        go_wp2
        go_region_with (go_at_call 110; refine (CI2.out _).mono ?_; rintro e w' ⟨rfl, rfl⟩)
        all_goals
          go_wp2
          go_roundg g'
          case measure => omega
          case rel =>
            refine ⟨c.toNat + 1, by omega, iv (by omega), ?_⟩
            first
              | exact HNX.out _ rfl rfl rfl rfl
              | exact HNX.out (World.drew _) rfl rfl rfl rfl

set_option maxRecDepth 100000 in
set_option maxHeartbeats 8000000 in
theorem newBuilder_plain {w : World} {nb : Nat} {P : List UInt8} (ho : NfaAt w nb P false) (hP : P.length ≤ 255) (HS : SortsN ((cntL false P).filter fun c => !wildC c).length) :
    Calls Tryz.prog 81 #[.pointer (some ⟨nb, 0, none⟩)] w fun e w' => ∃ b m, e = .returned (.pointer (some ⟨b, 0, none⟩)) ∧ w.heap.size ≤ b ∧ w.heap.size ≤ m ∧ b ≠ m ∧ BldAt w' b nb P (sampL (cntL false P)) (clsTo false (sampL (cntL false P)) 256) m (.slice none 0 0) ∧ w'.heap[m]? = some (.map #[] 0) ∧ Below w.heap.size w w' := by
  obtain ⟨B, hB⟩ : ∃ B, cntL false P = B := ⟨_, rfl⟩
  have hBl : B.length ≤ 255 := by rw [← hB, cntL_len]; exact hP
  rw [hB] at HS
  have C1 := Lib.hid (pattern_any ho (by omega))
  have C2 : Hid (∀ W, Calls Tryz.prog 109 #[.string (str B)] W fun e w' => e = .returned (.string (str (letL B))) ∧ Below W.heap.size W w') := Lib.hid (fun W => letters_any B W (by omega) HS)
  have CF : Hid (∀ W (l : List UInt8), l.length ≤ 1000 → Calls Tryz.prog 108 #[.string (str l)] W fun e w' => e = .returned (.string (str (cntL false l))) ∧ Below W.heap.size W w') := Lib.hid (fun W l hs => (plain_any (str l) W).mono (fun _ _ ⟨h1, h2⟩ => ⟨h1, h2 ▸ Below.refl _ _⟩))
  have hmm := @run_makeMap Tryz.prog
  obtain ⟨S2, hS2⟩ : ∃ S2, str (letL B) = S2 := ⟨_, rfl⟩
  have hS2z : S2.size ≤ 255 := by rw [← hS2, str_size]; exact Nat.le_trans (letL_len B) hBl
  have HA : Hid (({ data := #[42] } : ByteArray) ++ S2 = str (sampL B)) := Lib.hid (by
    rw [← hS2]; rfl)
  rw [hS2] at C2
  rw [hB]
  have CF1 : Hid (∀ W, Calls Tryz.prog 108 #[.string (str P)] W fun e w' => e = .returned (.string (str B)) ∧ Below W.heap.size W w') := Lib.hid (fun W => by
    have := CF.out W P (by omega)
    rwa [hB] at this)
  have CI : Hid (∀ W (d : UInt8), Calls Tryz.prog 110 #[.string (str (sampL B)), .string (str [d])] W fun e w' => e = .returned (.int .i64 (Lib.indexByte (sampL B) d)) ∧ w' = W) := Lib.hid (fun W d => by
    have := Tryz.strings_Index_one (str (sampL B)) d W
    rwa [str_data] at this)
  have HIX : Hid (∀ d, Lib.indexByte (sampL B) d = if d ∈ sampL B then ((sampL B).idxOf d : Int) else -1) := Lib.hid (index_mem _)
  have HN : Hid (∀ m, BldC ((((Tryz.zeroCells130.setIfInBounds 0 (.pointer (some ⟨nb, 0, none⟩))).setIfInBounds 1 (.string (str P))).setIfInBounds 2 (.string (str (sampL B)))).setIfInBounds 259 (.map (some m))) nb P (sampL B) (fun _ => 0) m (.slice none 0 0)) := Lib.hid (fun m => bld_new nb P (sampL B) m)
  have hbw := byte_wrap
  clear HS hB ho hS2
  go_enter Tryz.func81, Tryz.ntmps81
  go_wp2_with fail
  refine C1.out.mono ?_
  rintro e w1 ⟨rfl, hb1⟩
  go_wp2_with fail
  refine (CF1.out _).mono ?_
  rintro e w2 ⟨rfl, hb2⟩
  go_wp2_with fail
  refine (C2.out _).mono ?_
  rintro e w3 ⟨rfl, hb3⟩
  go_wp2
  rw [HA.out]
  have hb13 : Below w.heap.size w w3 := hb1.trans ((hb2.trans (hb3.mono hb2.size)).mono hb1.size)
  have HW4 : Hid (BldAt ((w3.alloc (Obj.map #[] 0)).alloc (Obj.cells ((((Tryz.zeroCells130.setIfInBounds 0 (Value.pointer (some ⟨nb, 0, none⟩))).setIfInBounds 1 (Value.string (str P))).setIfInBounds 2 (Value.string (str (sampL B)))).setIfInBounds 259 (Value.map (some w3.heap.size))) 130)) (w3.heap.size + 1) nb P (sampL B) (fun _ => 0) w3.heap.size (.slice none 0 0) ∧
      ((w3.alloc (Obj.map #[] 0)).alloc (Obj.cells ((((Tryz.zeroCells130.setIfInBounds 0 (Value.pointer (some ⟨nb, 0, none⟩))).setIfInBounds 1 (Value.string (str P))).setIfInBounds 2 (Value.string (str (sampL B)))).setIfInBounds 259 (Value.map (some w3.heap.size))) 130)).heap[w3.heap.size]? = some (.map #[] 0) ∧
      Below w.heap.size w ((w3.alloc (Obj.map #[] 0)).alloc (Obj.cells ((((Tryz.zeroCells130.setIfInBounds 0 (Value.pointer (some ⟨nb, 0, none⟩))).setIfInBounds 1 (Value.string (str P))).setIfInBounds 2 (Value.string (str (sampL B)))).setIfInBounds 259 (Value.map (some w3.heap.size))) 130))) := Lib.hid (by
    refine ⟨⟨_, ?_, HN.out w3.heap.size⟩, ?_, (hb13.alloc hb13.size _).alloc (by have := hb13.size; simp; omega) _⟩
    · have := World.alloc_heap_new (w3.alloc (Obj.map #[] 0)) (Obj.cells ((((Tryz.zeroCells130.setIfInBounds 0 (Value.pointer (some ⟨nb, 0, none⟩))).setIfInBounds 1 (Value.string (str P))).setIfInBounds 2 (Value.string (str (sampL B)))).setIfInBounds 259 (Value.map (some w3.heap.size))) 130)
      rwa [World.size_alloc] at this
    · rw [Below.heap_alloc _ _ _ (by simp)]
      exact World.alloc_heap_new w3 (Obj.map #[] 0))
  obtain ⟨W4, hW4⟩ : ∃ W4, ((w3.alloc (Obj.map #[] 0)).alloc (Obj.cells ((((Tryz.zeroCells130.setIfInBounds 0 (Value.pointer (some ⟨nb, 0, none⟩))).setIfInBounds 1 (Value.string (str P))).setIfInBounds 2 (Value.string (str (sampL B)))).setIfInBounds 259 (Value.map (some w3.heap.size))) 130)) = W4 := ⟨_, rfl⟩
  rw [hW4] at HW4
  rw [hW4]
  obtain ⟨cc, hcc⟩ : ∃ cc, (((Tryz.zeroCells130.setIfInBounds 0 (Value.pointer (some ⟨nb, 0, none⟩))).setIfInBounds 1 (Value.string (str P))).setIfInBounds 2 (Value.string (str (sampL B)))).setIfInBounds 259 (Value.map (some w3.heap.size)) = cc := ⟨_, rfl⟩
  rw [hcc]
  have hm3 : w.heap.size ≤ w3.heap.size := hb13.size
  obtain ⟨m, hm⟩ : ∃ m, w3.heap.size = m := ⟨_, rfl⟩
  rw [hm] at HW4 hm3
  rw [hm]
  clear hW4 hcc hm HN HA hb1 hb2 hb3 hb13 C1 C2 CF1 hmm
  go_loopg [8, 9, 27] 256 (fun gk s8 s9 s27 wr => ∃ k : Nat, k + gk = 256 ∧ s27 = .int .i64 k ∧ Hid (BldAt wr (m + 1) nb P (sampL B) (clsTo false (sampL B) k) m (.slice none 0 0)) ∧ Hid (wr.heap[m]? = some (.map #[] 0)) ∧ Hid (Below w.heap.size w wr))
  case atStart => exact ⟨0, by omega, rfl, Lib.hid (HW4.out.1.congr (fun i _ => by simp [clsTo])), Lib.hid HW4.out.2.1, Lib.hid HW4.out.2.2⟩
  case round =>
    obtain ⟨k, hkg, rfl, HO, HM, HB⟩ := hrel
    clear HW4
    cases gk with
    | zero =>
      have hkz : ¬ ((k : Int) < 256) := by omega
      have hk : k = 256 := by omega
      go_wp2
      go_ret
      exact ⟨m + 1, rfl, by omega, m, hm3, by omega, hk ▸ HO.out, HM.out, HB.out⟩
    | succ g' =>
      have hkz : (k : Int) < 256 := by omega
      obtain ⟨c, rfl⟩ : ∃ c : UInt8, k = c.toNat := ⟨UInt8.ofNat k, by rw [UInt8.toNat_ofNat']; omega⟩
      have hconv := conv_one c
      obtain ⟨d, hd⟩ : ∃ d, cntC false c = d := ⟨_, rfl⟩
      have CF2 : Hid (∀ W, Calls Tryz.prog 108 #[.string (str [c])] W fun e w' => e = .returned (.string (str [d])) ∧ Below W.heap.size W w') := Lib.hid (fun W => by
        have := CF.out W [c] (by simp)
        rwa [cnt_one, hd] at this)
      have hba : Below wr.heap.size wr (wr.alloc (.cells #[.int .u8 (c.toNat : Int)] 5)) := (Below.refl _ _).alloc (Nat.le_refl _) _
      replace hba := Lib.hid hba
      have HCL : Hid (∀ j, (if j = c.toNat then clsL (sampL B) d else clsTo false (sampL B) c.toNat j) = clsTo false (sampL B) (c.toNat + 1) j) := Lib.hid (fun j => by rw [← hd]; exact clsTo_next false (sampL B) c j)
      have HCD : Hid (clsL (sampL B) d = if d ∈ sampL B then (sampL B).idxOf d else 0) := Lib.hid rfl
      clear hd
      go_wp2_with fail
      refine (CF2.out _).mono ?_
      rintro e w5 ⟨rfl, hb5⟩
      have hb6 : Below wr.heap.size wr w5 := hba.out.trans (hb5.mono hba.out.size)
      have hml : m + 1 < wr.heap.size := HO.out.lt
      have hO5 := HO.out.same (hb6.block (m + 1) hml)
      have hM5 := Lib.hid ((hb6.block m (by omega)).trans HM.out)
      have hB5 := Lib.hid (HB.out.trans (hb6.mono HB.out.size))
      have ccl := hO5.cls (i := c.toNat) (by omega)
      have fcl := hO5.fz (3 + c.toNat)
      replace hO5 := Lib.hid hO5
      have HNX : Hid (∀ (W : World), W.heap = w5.heap → W.os = w5.os → W.tape = w5.tape → W.output = w5.output → Hid (BldAt (W.setCell ⟨m + 1, 3 + c.toNat, none⟩ (.int .i64 ((clsL (sampL B) d : Nat) : Int))) (m + 1) nb P (sampL B) (clsTo false (sampL B) (c.toNat + 1)) m (.slice none 0 0)) ∧ Hid ((W.setCell ⟨m + 1, 3 + c.toNat, none⟩ (.int .i64 ((clsL (sampL B) d : Nat) : Int))).heap[m]? = some (.map #[] 0)) ∧ Hid (Below w.heap.size w (W.setCell ⟨m + 1, 3 + c.toNat, none⟩ (.int .i64 ((clsL (sampL B) d : Nat) : Int))))) := Lib.hid (fun W e1 e2 e3 e4 => by
        have hO : BldAt W (m + 1) nb P (sampL B) (clsTo false (sampL B) c.toNat) m (.slice none 0 0) := hO5.out.same (by rw [e1])
        refine ⟨Lib.hid ((hO.putCls (i := c.toNat) (k := clsL (sampL B) d) (by omega)).congr (fun i _ => HCL.out i)), Lib.hid ?_, Lib.hid ?_⟩
        · rw [Below.heap_setCell _ _ _ _ (by show m ≠ m + 1; omega), e1]; exact hM5.out
        · have hbW : Below w.heap.size w W := ⟨e2.trans hB5.out.os, e3.trans hB5.out.tape, e4.trans hB5.out.output, by rw [e1]; exact hB5.out.size, fun q hq => by rw [e1]; exact hB5.out.block q hq⟩
          exact hbW.setCell (p := ⟨m + 1, 3 + c.toNat, none⟩) (by show w.heap.size ≤ m + 1; omega) _)
      have hix := HIX.out d
      have CI2 := Lib.hid (fun W => CI.out W d)
      by_cases hdm : d ∈ sampL B
      · rw [if_pos hdm] at hix
        have hcd := HCD.out
        rw [if_pos hdm] at hcd
        rw [hcd] at HNX
        rw [hix] at CI2
        obtain ⟨q, hq⟩ : ∃ q : Nat, (sampL B).idxOf d = q := ⟨_, rfl⟩
        rw [hq] at CI2 HNX
        have hq0 : ¬ ((q : Int) < 0) := by omega
        clear hq hcd hix hdm hB5 hM5 hO5 HCL HCD HO HM HB CF2 hba hb5 hb6 hconv CI CF HIX
        go_wp2
        go_region_with (go_at_call 110; refine (CI2.out _).mono ?_; rintro e w' ⟨rfl, rfl⟩)
        all_goals
          go_wp2
          go_roundg g'
          case measure => omega
          case rel =>
            refine ⟨c.toNat + 1, by omega, iv (by omega), ?_⟩
            first
              | exact HNX.out _ rfl rfl rfl rfl
              | exact HNX.out (World.drew _) rfl rfl rfl rfl
      · rw [if_neg hdm] at hix
        have hcd := HCD.out
        rw [if_neg hdm] at hcd
        rw [hcd] at HNX
        rw [hix] at CI2
        clear hcd hix hdm hB5 hM5 hO5 HCL HCD HO HM HB CF2 hba hb5 hb6 hconv CI CF HIX
        go_wp2
        go_region_with (go_at_call 110; refine (CI2.out _).mono ?_; rintro e w' ⟨rfl, rfl⟩)
        all_goals
          go_wp2
          go_roundg g'
          case measure => omega
          case rel =>
            refine ⟨c.toNat + 1, by omega, iv (by omega), ?_⟩
            first
              | exact HNX.out _ rfl rfl rfl rfl
              | exact HNX.out (World.drew _) rfl rfl rfl rfl

theorem newBuilder_any {w : World} {nb : Nat} {P : List UInt8} {f : Bool} (ho : NfaAt w nb P f) (hP : P.length ≤ 255) (HS : SortsN ((cntL f P).filter fun c => !wildC c).length) :
    Calls Tryz.prog 81 #[.pointer (some ⟨nb, 0, none⟩)] w fun e w' => ∃ b m, e = .returned (.pointer (some ⟨b, 0, none⟩)) ∧ w.heap.size ≤ b ∧ w.heap.size ≤ m ∧ b ≠ m ∧ BldAt w' b nb P (sampL (cntL f P)) (clsTo f (sampL (cntL f P)) 256) m (.slice none 0 0) ∧ w'.heap[m]? = some (.map #[] 0) ∧ Below w.heap.size w w' := by
  cases f with
  | true => exact newBuilder_fold ho hP HS
  | false => exact newBuilder_plain ho hP HS
end Go.Proofs.YtnpgmekgmelamaaGreat
