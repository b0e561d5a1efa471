/-
  What is proved: outlawlaw09.DfaLess returns true at any glob, fold and bounds: a table is the same for any bound that allows it. No conditions.
-/
import Derived.Test.YtchobpfdmkgnoaaDfSame
import Derived.Test.YtchobpfdmkgnoaaDfMakeN
import Derived.Test.YtchobpfdmkgnoaaDfLives
import Derived.Test.YtchobpfdmkgnoaaDfSrt
namespace Go.Proofs.Ytchobpfdmkgnoaa
open Go.RowKit Go.Shelf Go.Maps

theorem pick_any (x : Int) (n : Nat) (w : World) (hn0 : 0 < n) (hn : n ≤ 1000000) :
    Calls Try.prog 8 #[.int .i64 x, .int .i64 n] w fun e w' => ∃ k : Nat, k < n ∧ e = .returned (.int .i64 k) ∧ w = w' := by
  have h1 : decide ((n : Int) < 1) = false := by simp; omega
  have hr0 : x.tmod n < n := Int.tmod_lt_of_pos x (by omega)
  have hr1 : -(n : Int) < x.tmod n := Int.lt_tmod_of_pos x (by omega)
  have hnz : ((n : Int) == 0) = false := by simp; omega
  obtain ⟨r, hr⟩ : ∃ r, r = x.tmod n := ⟨_, rfl⟩
  rw [← hr] at hr0 hr1
  have hr' := hr.symm
  clear hr
  by_cases hneg : r < 0
  · have h2 : decide (r < 0) = true := by simpa using hneg
    go_enter Try.func8, Try.ntmps8
    go_wp2
    go_ret
    refine ⟨(r + n).toNat, by omega, ?_, rfl⟩
    have : (((r + n).toNat : Nat) : Int) = r + n := by omega
    rw [this]; rfl
  · have h2 : decide (r < 0) = false := by simpa using hneg
    go_enter Try.func8, Try.ntmps8
    go_wp2
    go_ret
    refine ⟨r.toNat, by omega, ?_, rfl⟩
    have : ((r.toNat : Nat) : Int) = r := by omega
    rw [this]; rfl

theorem texts_none (w : World) : Calls Try.prog 10 #[.slice none 0 0, .int .i64 20, .int .i64 200] w fun e w' => e = .returned (.bool true) ∧ w' = w := by
  go_enter Try.func10, Try.ntmps10
  go_wp2
  go_loopg [7] 0 (fun gk s7 wr => gk = 0 ∧ s7 = .int .i64 0 ∧ wr = w)
  case atStart => exact ⟨rfl, rfl, rfl⟩
  case round =>
    obtain ⟨rfl, rfl, rfl⟩ := hrel
    go_wp2
    go_ret
    exact ⟨rfl, rfl⟩
theorem light_any (p : ByteArray) (w : World) :
    Calls Try.prog 5 #[.string p, .slice none 0 0] w fun e w' => e = .returned (.bool (decide (p.size ≤ 60))) ∧ w' = w := by
  have C := Lib.hid (fun w => texts_none w)
  by_cases hp : p.size ≤ 60
  · have h1 : (p.size : Int) ≤ 60 := by omega
    rw [decide_eq_true hp]
    clear hp
    go_enter Try.func5, Try.ntmps5
    go_wp2_with (go_at_call 10; refine (C.out _).mono ?_; rintro e w' ⟨rfl, rfl⟩)
    go_ret
    exact ⟨rfl, rfl⟩
  · have h1 : ¬ ((p.size : Int) ≤ 60) := by omega
    rw [decide_eq_false hp]
    clear hp
    go_enter Try.func5, Try.ntmps5
    go_wp2
    go_ret
    exact ⟨rfl, rfl⟩

/-- Build, whatever comes in: a table with n states, which is the same for any bound that allows it; or none. -/
def LessB (p : ByteArray) (_ : Bool) : Prop := checkN p.size = 0
theorem build_all (p : ByteArray) (f : Bool) (most : Int) (w : World) (hp60 : p.size ≤ 60) :
    Calls Try.prog 6 #[.string p, .bool f, .int .i64 most] w fun e w' =>
      ((∃ n : Nat, 1 ≤ n ∧ (n : Int) ≤ most ∧ most ≤ 256 ∧ LessB p f ∧ Closed (cntL f (normP p)) (sampL (cntL f (normP p))) n ∧ ∃ cv nv av, e = .returned (.tuple #[.agg #[cv, nv, av], .bool true]) ∧ DfaR w' cv nv av (clsI (clsTo f (sampL (cntL f (normP p))) 256)) (tabRows (cntL f (normP p)) (sampL (cntL f (normP p))) n) (tabAccs (cntL f (normP p)) (sampL (cntL f (normP p))) n)) ∨
      ((∀ n : Nat, LessB p f → (n : Int) ≤ most → most ≤ 256 → ¬ Closed (cntL f (normP p)) (sampL (cntL f (normP p))) n) ∧ e = .returned (.tuple #[.agg #[.slice none 0 0, .slice none 0 0, .slice none 0 0], .bool false]))) ∧ Below w.heap.size w w' := by
  have hpos : ∀ n, Closed (cntL f (normP p)) (sampL (cntL f (normP p))) n → 1 ≤ n := fun n hc => by
    have := setsL_pos (cntL f (normP p)) (sampL (cntL f (normP p))) n
    rw [show (setsL (cntL f (normP p)) (sampL (cntL f (normP p))) n).length = n from hc] at this
    exact this
  by_cases hc : checkN p.size = 0
  · by_cases hm : 1 ≤ most ∧ most ≤ 256
    · obtain ⟨m, rfl⟩ : ∃ m : Nat, most = (m : Int) := ⟨most.toNat, by omega⟩
      have hS : SortsN ((cntL f (normP p)).filter fun c => !wildC c).length := sortsN_any (by
        have h1 := List.length_filter_le (fun c => !wildC c) (cntL f (normP p))
        have h2 : (cntL f (normP p)).length = (normP p).length := cntL_len f (normP p)
        have h3 := normP_len p
        omega)
      refine (make_any p f m w hc hS (by omega) (by omega)).mono ?_
      rintro e w1 ⟨⟨n, hn, hle, cv, nv, av, rfl, hd⟩ | ⟨hno, rfl⟩, hb⟩
      · exact ⟨.inl ⟨n, hpos n hn, by omega, hm.2, hc, hn, cv, nv, av, rfl, hd⟩, hb⟩
      · exact ⟨.inr ⟨fun n _ h2 _ => hno n (by omega), rfl⟩, hb⟩
    · refine (make_most p f most w hc (by
        rcases Classical.not_and_iff_not_or_not.1 hm with h | h
        · rw [decide_eq_false h, Bool.false_and]
        · rw [decide_eq_false h, Bool.and_false])).mono ?_
      rintro e w1 ⟨rfl, hb⟩
      exact ⟨.inr ⟨fun n _ h2 h3 hcl => by have := hpos n hcl; omega, rfl⟩, hb⟩
  · refine (make_bad p f most w hc).mono ?_
    rintro e w1 ⟨rfl, hb⟩
    exact ⟨.inr ⟨fun n h1 _ _ => absurd h1 hc, rfl⟩, hb⟩

theorem zero_dfa (W : World) : DfaR W (.slice none 0 0) (.slice none 0 0) (.slice none 0 0) [] [] [] :=
  ⟨.inl ⟨rfl, rfl⟩, ⟨none, 0, rfl, fun j hj => absurd hj (Nat.not_lt_zero j)⟩, ⟨none, 0, rfl, fun j hj => absurd hj (Nat.not_lt_zero j)⟩⟩
theorem zero_light : LightD [] [] [] := ⟨by decide, by decide, by decide, fun j hj => absurd hj (Nat.not_lt_zero j)⟩

set_option maxRecDepth 100000 in
set_option maxHeartbeats 4000000 in
theorem dless_any (p : ByteArray) (f : Bool) (most more : Int) (w : World) :
    Calls Try.prog 3 #[.string p, .bool f, .int .i64 most, .int .i64 more] w fun e w' => e = .returned (.bool true) ∧ Below w.heap.size w w' := by
  have C0 := Lib.hid (fun w => lives_any w)
  by_cases h60 : p.size ≤ 60
  · have CL : Hid (∀ w, Calls Try.prog 5 #[.string p, .slice none 0 0] w fun e w' => e = .returned (.bool true) ∧ w' = w) := Lib.hid (fun w => by
      have := light_any p w
      rwa [decide_eq_true h60] at this)
    have CB := Lib.hid (fun w m => build_all p f m w h60)
    have CS := Lib.hid (fun (W : World) (u1 u2 u3 v1 v2 v3 : Value) (cs : List Int) (rows : List (List Int)) (accs : List Bool) (h1 : DfaR W u1 u2 u3 cs rows accs) (h2 : DfaR W v1 v2 v3 cs rows accs) (hl : LightD cs rows accs) => same_yes h1 h2 hl)
    have CP := Lib.hid pick_any
    have hcl255 : Hid ((sampL (cntL f (normP p))).length ≤ 256) := Lib.hid (samp_len _ (by
      have h2 : (cntL f (normP p)).length = (normP p).length := cntL_len f (normP p)
      have h3 := normP_len p
      omega))
    clear h60
    go_enter Try.func3, Try.ntmps3
    go_wp2_with (first
      | (go_at_call 4; refine (C0.out _).mono ?_; rintro e w0 ⟨rfl, hb0⟩)
      | (go_at_call 5; refine (CL.out _).mono ?_; rintro e w' ⟨rfl, rfl⟩))
    refine (CB.out _ _).mono ?_
    rintro e w1 ⟨⟨n, h1, hle, h256, hlb, hcl, cv, nv, av, rfl, hd⟩ | ⟨hno, rfl⟩, hb1⟩
    · have hn256 : n ≤ 256 := by omega
      have HLT : Hid (LightD (clsI (clsTo f (sampL (cntL f (normP p))) 256)) (tabRows (cntL f (normP p)) (sampL (cntL f (normP p))) n) (tabAccs (cntL f (normP p)) (sampL (cntL f (normP p))) n)) := Lib.hid (built_light (f := f) hcl hn256 hcl255.out)
      have HCL := Lib.hid hcl
      have HLB := Lib.hid hlb
      have HD := Lib.hid hd
      obtain ⟨a1, c1, rfl, _⟩ := hd.cls.reads
      obtain ⟨a2, c2, rfl, _⟩ := hd.rows
      obtain ⟨a3, c3, rfl, _⟩ := hd.accs
      have hlen : (tabRows (cntL f (normP p)) (sampL (cntL f (normP p))) n).length = n := tabRows_len hcl
      rw [hlen] at HD
      rw [hlen]
      obtain ⟨l1, hl1⟩ : ∃ l1, (clsI (clsTo f (sampL (cntL f (normP p))) 256)).length = l1 := ⟨_, rfl⟩
      obtain ⟨l3, hl3⟩ : ∃ l3, (tabAccs (cntL f (normP p)) (sampL (cntL f (normP p))) n).length = l3 := ⟨_, rfl⟩
      rw [hl1, hl3] at HD
      rw [hl1, hl3]
      have hb01 := Lib.hid (hb0.trans (hb1.mono hb0.size))
      obtain ⟨m1, hm1⟩ : ∃ m1, 256 - n = m1 := ⟨_, rfl⟩
      obtain ⟨m2, hm2⟩ : ∃ m2, m1 + 1 = m2 := ⟨_, rfl⟩
      have e1 : (256 : Int) - (n : Int) = (m1 : Int) := by omega
      have e2 : IntKind.i64.wrap (m1 : Int) = (m1 : Int) := by rw [IntKind.wrap_i64]; omega
      have e3 : (m1 : Int) + 1 = (m2 : Int) := by omega
      have e4 : IntKind.i64.wrap (m2 : Int) = (m2 : Int) := by rw [IntKind.wrap_i64]; omega
      obtain ⟨n1, hn1⟩ : ∃ n1, n - 1 = n1 := ⟨_, rfl⟩
      have e5 : (n : Int) - 1 = (n1 : Int) := by omega
      have e6 : IntKind.i64.wrap (n1 : Int) = (n1 : Int) := by rw [IntKind.wrap_i64]; omega
      have z1 : (1 : Int) ≤ (n : Int) := by omega
      clear hb0 hb1 hd hlen hl1 hl3 hcl hlb
      have hsz : Hid ((w1.alloc (.cells #[.slice a1 l1 c1, .slice a2 n c2, .slice a3 l3 c3] 28)).heap.size = w1.heap.size + 1) := Lib.hid (by simp)
      obtain ⟨W1, hW1⟩ : ∃ W1, w1.alloc (.cells #[.slice a1 l1 c1, .slice a2 n c2, .slice a3 l3 c3] 28) = W1 := ⟨_, rfl⟩
      rw [hW1] at hsz
      have hA : Hid (Below w1.heap.size w1 W1) := Lib.hid (by rw [← hW1]; exact (Below.refl _ _).alloc (Nat.le_refl _) _)
      have K1 : Hid (∀ i, W1.cell? ⟨w1.heap.size, i, none⟩ = (#[.slice a1 l1 c1, .slice a2 n c2, .slice a3 l3 c3] : Array Value)[i]?) := Lib.hid (fun i => by rw [← hW1]; exact World.cell?_alloc_new ..)
      have HM2 : Hid (0 < m2 ∧ m2 ≤ 1000000 ∧ n + m2 = 257) := Lib.hid (by omega)
      have HN1 : Hid (n1 + 1 = n) := Lib.hid (by omega)
      clear hm1 hm2 hn1
      have k01 : W1.cell? ⟨w1.heap.size, 1, none⟩ = some (.slice a2 n c2) := K1.out 1
      go_wp2_with fail
      refine (CP.out _ _ _ HM2.out.1 HM2.out.2.1).mono ?_
      rintro e w2 ⟨k, hk, rfl, rfl⟩
      obtain ⟨bd, hbd⟩ : ∃ bd, n + k = bd := ⟨_, rfl⟩
      have e7 : (n : Int) + (k : Int) = (bd : Int) := by omega
      have hbd1 : n ≤ bd := by omega
      have hbd2 : bd ≤ 256 := by have := HM2.out.2.2; omega
      have e8 : IntKind.i64.wrap (bd : Int) = (bd : Int) := by rw [IntKind.wrap_i64]; omega
      clear hk hbd
      go_wp2_with fail
      refine (CB.out _ _).mono ?_
      rintro e w3 ⟨⟨n', _, hle', _, _, hcl', cv', nv', av', rfl, hd'⟩ | ⟨hno, rfl⟩, hb3⟩
      · obtain rfl := Closed.unique HCL.out hcl'
        have HD' := Lib.hid hd'
        obtain ⟨b1, d1, rfl, _⟩ := hd'.cls.reads
        obtain ⟨b2, d2, rfl, _⟩ := hd'.rows
        obtain ⟨b3, d3, rfl, _⟩ := hd'.accs
        obtain ⟨q1, hq1⟩ : ∃ q1, (clsI (clsTo f (sampL (cntL f (normP p))) 256)).length = q1 := ⟨_, rfl⟩
        obtain ⟨q2, hq2⟩ : ∃ q2, (tabRows (cntL f (normP p)) (sampL (cntL f (normP p))) n).length = q2 := ⟨_, rfl⟩
        obtain ⟨q3, hq3⟩ : ∃ q3, (tabAccs (cntL f (normP p)) (sampL (cntL f (normP p))) n).length = q3 := ⟨_, rfl⟩
        rw [hq1, hq2, hq3] at HD'
        rw [hq1, hq2, hq3]
        obtain ⟨W3, hW3⟩ : ∃ W3, w3.alloc (.cells #[.slice b1 q1 d1, .slice b2 q2 d2, .slice b3 q3 d3] 28) = W3 := ⟨_, rfl⟩
        have hA3 : Hid (Below w3.heap.size w3 W3) := Lib.hid (by rw [← hW3]; exact (Below.refl _ _).alloc (Nat.le_refl _) _)
        have hsz3 : Hid (W3.heap.size = w3.heap.size + 1) := Lib.hid (by rw [← hW3]; simp)
        have K3 : Hid (∀ i, W3.cell? ⟨w3.heap.size, i, none⟩ = (#[.slice b1 q1 d1, .slice b2 q2 d2, .slice b3 q3 d3] : Array Value)[i]?) := Lib.hid (fun i => by rw [← hW3]; exact World.cell?_alloc_new ..)
        have HB3 := Lib.hid hb3
        clear hd' hcl' hb3 hq1 hq2 hq3 hle'
        go_wp2_with fail
        refine (CB.out _ _).mono ?_
        rintro e w4 ⟨⟨n', _, hle', _, _, hcl', _⟩ | ⟨hno, rfl⟩, hb4⟩
        · have := Closed.unique HCL.out hcl'
          have := HN1.out
          omega
        · have HB4 : Hid (Below W3.heap.size W3 w4) := Lib.hid hb4
          clear hno hb4
          obtain ⟨W4, hW4⟩ : ∃ W4, w4.alloc (.cells #[.slice none 0 0, .slice none 0 0, .slice none 0 0] 28) = W4 := ⟨_, rfl⟩
          have hb44 : Below w4.heap.size w4 W4 := by rw [← hW4]; exact (Below.refl _ _).alloc (Nat.le_refl _) _
          have h34 : Below W3.heap.size W3 W4 := HB4.out.trans (hb44.mono HB4.out.size)
          have h3a : Below w3.heap.size w3 W4 := hA3.out.trans (h34.mono hA3.out.size)
          have h1a : Below W1.heap.size W1 W4 := HB3.out.trans (h3a.mono HB3.out.size)
          have h11 : Below w1.heap.size w1 W4 := hA.out.trans (h1a.mono hA.out.size)
          have j0 : W4.cell? ⟨w3.heap.size, 0, none⟩ = some (.slice b1 q1 d1) := (h34.cell (p := ⟨w3.heap.size, 0, none⟩) (by show w3.heap.size < W3.heap.size; rw [hsz3.out]; omega)).trans (K3.out 0)
          have j1 : W4.cell? ⟨w3.heap.size, 1, none⟩ = some (.slice b2 q2 d2) := (h34.cell (p := ⟨w3.heap.size, 1, none⟩) (by show w3.heap.size < W3.heap.size; rw [hsz3.out]; omega)).trans (K3.out 1)
          have j2 : W4.cell? ⟨w3.heap.size, 2, none⟩ = some (.slice b3 q3 d3) := (h34.cell (p := ⟨w3.heap.size, 2, none⟩) (by show w3.heap.size < W3.heap.size; rw [hsz3.out]; omega)).trans (K3.out 2)
          have k0 : W4.cell? ⟨w1.heap.size, 0, none⟩ = some (.slice a1 l1 c1) := (h1a.cell (p := ⟨w1.heap.size, 0, none⟩) (by show w1.heap.size < W1.heap.size; rw [hsz.out]; omega)).trans (K1.out 0)
          have k1 : W4.cell? ⟨w1.heap.size, 1, none⟩ = some (.slice a2 n c2) := (h1a.cell (p := ⟨w1.heap.size, 1, none⟩) (by show w1.heap.size < W1.heap.size; rw [hsz.out]; omega)).trans (K1.out 1)
          have k2 : W4.cell? ⟨w1.heap.size, 2, none⟩ = some (.slice a3 l3 c3) := (h1a.cell (p := ⟨w1.heap.size, 2, none⟩) (by show w1.heap.size < W1.heap.size; rw [hsz.out]; omega)).trans (K1.out 2)
          have CS1 := Lib.hid (CS.out W4 _ _ _ _ _ _ _ _ _ (HD'.out.below h3a) (HD.out.below h11) HLT.out)
          have HF := Lib.hid (hb01.out.trans (h11.mono hb01.out.size))
          have HW4 := Lib.hid hW4
          clear hb44 h34 h3a h1a h11 K1 K3 hW4
          go_upto_region 11 with fail
          rw [HW4.out]
          go_wp2_with fail
          refine CS1.out.mono ?_
          rintro e w5 ⟨rfl, hb5⟩
          have hbf := HF.out.trans (hb5.mono HF.out.size)
          clear hb5
          go_wp2
          go_ret
          exact ⟨rfl, hbf⟩
      · exact absurd HCL.out (hno n HLB.out (by omega) (by omega))
    · have HF := Lib.hid (hb0.trans (hb1.mono hb0.size))
      have CS1 : Hid (Calls Try.prog 7 #[.agg #[.slice none 0 0, .slice none 0 0, .slice none 0 0], .agg #[.slice none 0 0, .slice none 0 0, .slice none 0 0]] (w1.alloc (.cells #[.slice none 0 0, .slice none 0 0, .slice none 0 0] 28)) fun e w' => e = .returned (.bool true) ∧ Below (w1.alloc (.cells #[.slice none 0 0, .slice none 0 0, .slice none 0 0] 28)).heap.size (w1.alloc (.cells #[.slice none 0 0, .slice none 0 0, .slice none 0 0] 28)) w') := Lib.hid (CS.out _ _ _ _ _ _ _ _ _ _ (zero_dfa _) (zero_dfa _) zero_light)
      clear hb0 hb1 hno
      go_wp2_with fail
      refine CS1.out.mono ?_
      rintro e w2 ⟨rfl, hb2⟩
      have hbf := HF.out.trans (((Below.refl w1.heap.size w1).alloc (Nat.le_refl _) (.cells #[.slice none 0 0, .slice none 0 0, .slice none 0 0] 28)).trans (hb2.mono (by rw [World.size_alloc]; omega)) |>.mono HF.out.size)
      clear hb2
      go_wp2
      go_ret
      exact ⟨rfl, hbf⟩
  · have CL : Hid (∀ w, Calls Try.prog 5 #[.string p, .slice none 0 0] w fun e w' => e = .returned (.bool false) ∧ w' = w) := Lib.hid (fun w => by
      have := light_any p w
      rwa [decide_eq_false h60] at this)
    clear h60
    go_enter Try.func3, Try.ntmps3
    go_wp2_with (first
      | (go_at_call 4; refine (C0.out _).mono ?_; rintro e w0 ⟨rfl, hb0⟩)
      | (go_at_call 5; refine (CL.out _).mono ?_; rintro e w' ⟨rfl, rfl⟩))
    go_ret
    exact ⟨rfl, hb0⟩
end Go.Proofs.Ytchobpfdmkgnoaa
