/-
  What is proved: tables that were built are valid, and run as their globs match; the laws' helper lives returns true.
-/
import Derived.Test.YtnpgmekgmelamaaGreatDfMake
namespace Go.Proofs.YtnpgmekgmelamaaGreat
open Go.RowKit Go.Shelf Go.Maps

theorem clsTo_all (f : Bool) (SA : List UInt8) (c : UInt8) : clsTo f SA 256 c.toNat = clsL SA (cntC f c) := by
  unfold clsTo
  rw [if_pos c.toNat_lt, UInt8.ofNat_toNat]
theorem clsD_I (cl : Nat → Nat) {i : Nat} (hi : i < 256) : clsD (clsI cl) i = cl i := by unfold clsD; rw [clsI_at cl hi]; rfl

theorem built_may {B SA : List UInt8} {f : Bool} {n : Nat} (hF : Fits B SA) (hc : Closed B SA n) (hn : n ≤ 256) : MayD (clsI (clsTo f SA 256)) (tabRows B SA n) (tabAccs B SA n) := by
  have hl := tabRows_len hc
  have hpos : 0 < n := by
    have := setsL_pos B SA n
    unfold Closed at hc; omega
  have hrow : ∀ j, j < (tabRows B SA n).length → (tabRows B SA n).getD j [] ∈ tabRows B SA n := fun j hj => by simp [List.getD, hj]
  have h0 := tabRow_len (hrow 0 (by omega))
  refine ⟨by omega, by omega, by rw [tabAccs_len hc, hl], clsI_len _, areL_all (fun k hk => ?_), fun j hj => ⟨?_, areL_all (fun k hk => ?_)⟩⟩
  · rw [clsI_len] at hk
    rw [clsI_at _ hk, h0]
    have := clsTo_all f SA (UInt8.ofNat k)
    rw [UInt8.toNat_ofNat', Nat.mod_eq_of_lt (by omega)] at this
    rw [this]
    have := clsL_lt hF.pos (cntC f (UInt8.ofNat k))
    omega
  · rw [tabRow_len (hrow j hj), h0]
  · rw [hl]
    have hx : ((tabRows B SA n).getD j []).getD k 0 ∈ (tabRows B SA n).getD j [] := by
      have e : ∀ {α : Type} (l : List α) (k : Nat) (z : α), k < l.length → l.getD k z ∈ l := fun l k z h => by simp [List.getD, h]
      exact e _ _ _ hk
    exact tabRow_lt hc (hrow j hj) hx
theorem built_light {B SA : List UInt8} {f : Bool} {n : Nat} (hc : Closed B SA n) (hn : n ≤ 256) (hS : SA.length ≤ 256) : LightD (clsI (clsTo f SA 256)) (tabRows B SA n) (tabAccs B SA n) := by
  have hl := tabRows_len hc
  refine ⟨by rw [clsI_len]; decide, by omega, by rw [tabAccs_len hc]; omega, fun j hj => ?_⟩
  rw [tabRow_len (show (tabRows B SA n).getD j [] ∈ tabRows B SA n by simp [List.getD, hj])]
  omega
theorem built_run {P SA : List UInt8} {f : Bool} {n : Nat} (hF : Fits (cntL f P) SA) (hc : Closed (cntL f P) SA n) (t : List UInt8) :
    (tabAccs (cntL f P) SA n).getD (runN (tabRows (cntL f P) SA n) (fun c => clsD (clsI (clsTo f SA 256)) c.toNat) t 0) false = mt f P t := by
  have e : ∀ (t : List UInt8) (s : Nat), runN (tabRows (cntL f P) SA n) (fun c => clsD (clsI (clsTo f SA 256)) c.toNat) t s = runN (tabRows (cntL f P) SA n) (clsL SA) (cntL f t) s := by
    intro t
    induction t with
    | nil => intro s; cases f <;> rfl
    | cons c t ih =>
      intro s
      have ec : cntL f (c :: t) = cntC f c :: cntL f t := by cases f <;> rfl
      rw [ec]
      show runN _ _ t (stepN _ s (clsD (clsI (clsTo f SA 256)) c.toNat)) = runN _ _ (cntL f t) (stepN _ s (clsL SA (cntC f c)))
      rw [ih, clsD_I _ c.toNat_lt, clsTo_all]
  rw [e, tab_match hF hc, ← cnt_mt]

def pab : ByteArray := ⟨#[97, 98]⟩
theorem samp_len (B : List UInt8) (h : B.length ≤ 255) : (sampL B).length ≤ 256 := by
  have := letL_len B
  unfold sampL
  rw [List.length_cons]; omega

set_option maxRecDepth 100000 in
set_option maxHeartbeats 2000000 in
theorem lives_any (w : World) :
    Calls Tryz.prog 8 #[] w fun e w' => e = .returned (.bool true) ∧ Below w.heap.size w w' := by
  have hF : Fits [97, 98] (sampL [97, 98]) := samp_fits _
  have hC4 : Closed [97, 98] (sampL [97, 98]) 4 := by unfold Closed; decide +kernel
  have C1 : Hid (Calls Tryz.prog 11 #[.string { data := #[97, 98] }, .bool false, .int .i64 10] w fun e w' => (∃ a1 c1 a2 c2 a3 c3, e = .returned (.tuple #[.agg #[.slice a1 256 c1, .slice a2 4 c2, .slice a3 4 c3], .bool true]) ∧ Hid (DfaR w' (.slice a1 256 c1) (.slice a2 4 c2) (.slice a3 4 c3) (clsI (clsTo false (sampL [97, 98]) 256)) (tabRows [97, 98] (sampL [97, 98]) 4) (tabAccs [97, 98] (sampL [97, 98]) 4))) ∧ Below w.heap.size w w') := Lib.hid (by
    have := make_any pab false 10 w (by decide) (sortsN_small (by decide +kernel)) (by decide) (by decide)
    rw [show normP pab = [97, 98] by decide +kernel] at this
    refine Calls.mono this ?_
    rintro e w' ⟨h | ⟨h, _⟩, hb⟩
    · obtain ⟨n, hn, _, cv, nv, av, rfl, hd⟩ := h
      have e4 := Closed.unique hn hC4
      subst e4
      obtain ⟨a1, c1, h1, _⟩ := hd.cls.reads
      obtain ⟨a2, c2, h2, _⟩ := hd.rows
      obtain ⟨a3, c3, h3, _⟩ := hd.accs
      rw [clsI_len] at h1
      rw [tabRows_len hn] at h2
      rw [tabAccs_len hn] at h3
      subst h1 h2 h3
      exact ⟨⟨a1, c1, a2, c2, a3, c3, rfl, Lib.hid hd⟩, hb⟩
    · exact absurd hC4 (h 4 (by decide)))
  have HM := Lib.hid (built_may (f := false) hF hC4 (by decide))
  have HL := Lib.hid (built_light (f := false) hC4 (by decide) (samp_len _ (by decide)))
  have CR : Hid (∀ (W : World) (cv nv av : Value) (s : ByteArray), s.size ≤ 100 → DfaR W cv nv av (clsI (clsTo false (sampL [97, 98]) 256)) (tabRows [97, 98] (sampL [97, 98]) 4) (tabAccs [97, 98] (sampL [97, 98]) 4) → Calls Tryz.prog 16 #[.agg #[cv, nv, av], .string s] W fun e w' => e = .returned (.bool (mt false [97, 98] s.data.toList)) ∧ Below W.heap.size W w') := Lib.hid (fun W cv nv av s hs h => by
    have := run_ok h HL.out HM.out s (by omega)
    rwa [show (tabAccs [97, 98] (sampL [97, 98]) 4).getD (runN (tabRows [97, 98] (sampL [97, 98]) 4) (fun c => clsD (clsI (clsTo false (sampL [97, 98]) 256)) c.toNat) s.data.toList 0) false = mt false [97, 98] s.data.toList from built_run (P := [97, 98]) (f := false) hF hC4 _] at this)
  clear HM HL hF hC4
  go_enter Tryz.func8, Tryz.ntmps8
  go_wp2_with fail
  refine C1.out.mono ?_
  rintro e w1 ⟨⟨a1, c1, a2, c2, a3, c3, rfl, hd⟩, hb1⟩
  have hb2 : Below w.heap.size w (w1.alloc (.cells #[.slice a1 256 c1, .slice a2 4 c2, .slice a3 4 c3] 26)) := hb1.alloc hb1.size _
  have hba : Below w1.heap.size w1 (w1.alloc (.cells #[.slice a1 256 c1, .slice a2 4 c2, .slice a3 4 c3] 26)) := (Below.refl _ _).alloc (Nat.le_refl _) _
  have C2 := Lib.hid (CR.out _ _ _ _ { data := #[97, 98] } (by decide) (hd.out.below hba))
  rw [show mt false [97, 98] ({ data := #[97, 98] } : ByteArray).data.toList = true by decide +kernel] at C2
  have C3 : Hid (∀ W, Below w1.heap.size w1 W → Calls Tryz.prog 16 #[.agg #[.slice a1 256 c1, .slice a2 4 c2, .slice a3 4 c3], .string { data := #[97] }] W fun e w' => e = .returned (.bool false) ∧ Below W.heap.size W w') := Lib.hid (fun W hW => by
    have := CR.out W _ _ _ { data := #[97] } (by decide) (hd.out.below hW)
    rwa [show mt false [97, 98] ({ data := #[97] } : ByteArray).data.toList = false by decide +kernel] at this)
  have hsz : Hid ((w1.alloc (.cells #[.slice a1 256 c1, .slice a2 4 c2, .slice a3 4 c3] 26)).heap.size = w1.heap.size + 1) := Lib.hid (by unfold World.alloc; exact Array.size_push ..)
  replace hb2 := Lib.hid hb2
  replace hba := Lib.hid hba
  clear hb1 C1 CR hd
  go_wp2_with fail
  refine C2.out.mono ?_
  rintro e w2 ⟨rfl, hc2⟩
  have hce : ∀ i, w2.cell? ⟨w1.heap.size, i, none⟩ = (#[.slice a1 256 c1, .slice a2 4 c2, .slice a3 4 c3] : Array Value)[i]? := fun i => (hc2.cell (p := ⟨w1.heap.size, i, none⟩) (by rw [hsz.out]; exact Nat.lt_succ_self _)).trans (World.cell?_alloc_new ..)
  have k0 : w2.cell? ⟨w1.heap.size, 0, none⟩ = some (.slice a1 256 c1) := hce 0
  have k1 : w2.cell? ⟨w1.heap.size, 1, none⟩ = some (.slice a2 4 c2) := hce 1
  have k2 : w2.cell? ⟨w1.heap.size, 2, none⟩ = some (.slice a3 4 c3) := hce 2
  have hb3 := Lib.hid (hba.out.trans (hc2.mono (by rw [hsz.out]; exact Nat.le_succ _)))
  have hb4 := Lib.hid (hb2.out.trans (hc2.mono (by have := hb2.out.size; omega)))
  have C4 := Lib.hid (C3.out w2 hb3.out)
  clear hce hc2 C2 C3
  go_wp2_with fail
  refine C4.out.mono ?_
  rintro e w3 ⟨rfl, hc3⟩
  have hb5 := Lib.hid (hb4.out.trans (hc3.mono (by have := hb4.out.size; omega)))
  clear hc3
  go_wp2_with fail
  go_ret
  exact ⟨rfl, hb5.out⟩
end Go.Proofs.YtnpgmekgmelamaaGreat
