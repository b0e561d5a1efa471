/-
  What is proved: an automaton of New matches what its glob matches, as long as its own blocks stand as they stood.
-/
import Derived.Test.YtnpgmekgmelamaaGreatDfAuto
import Derived.Test.YtnpgmekgmelamaaGreatDfLives
import Derived.Test.YtnpgmekgmelamaaGreatIxObj
namespace Go.Proofs.YtnpgmekgmelamaaGreat
open Go.RowKit Go.Shelf Go.Maps

theorem TabAt.cong {W : World} {tb : Nat} {cl cl' : Nat → Nat} {nv av : Value} (h : TabAt W tb cl nv av) (e : ∀ i, i < 256 → cl' i = cl i) : TabAt W tb cl' nv av := by
  obtain ⟨c, hc, h⟩ := h
  exact ⟨c, hc, ⟨h.size, fun i hi => by rw [e i hi]; exact h.cls i hi, h.c1, h.c2⟩⟩

set_option maxHeartbeats 1000000 in
theorem tmatch_any {w : World} {b tb : Nat} {P : List UInt8} {f : Bool} {n : Nat} {nv av : Value} (h : AutoAt w b (.iface 75 (.pointer (some ⟨tb, 0, none⟩)))) (hc : Closed (cntL f P) (sampL (cntL f P)) n) (hn : n ≤ 256)
    (hM : Made w tb (clsTo f (sampL (cntL f P)) 256) (tabRows (cntL f P) (sampL (cntL f P)) n) (tabAccs (cntL f P) (sampL (cntL f P)) n) nv av) (t : ByteArray) (ht : t.size ≤ 1000000) :
    Calls Tryz.prog 25 #[.pointer (some ⟨b, 0, none⟩), .string t] w fun e w' => e = .returned (.bool (mt f P t.data.toList)) ∧ Below w.heap.size w w' := by
  have c1 := h.c1
  have C := Lib.hid (amade_any h)
  have hF : Fits (cntL f P) (sampL (cntL f P)) := samp_fits _
  have C2 := match_any (hM.tab.cong (fun i hi => clsD_I (clsTo f (sampL (cntL f P)) 256) hi)) hM.rows.reads hM.accs.reads (built_may hF hc hn) t ht
  rw [built_run hF hc] at C2
  replace C2 := Lib.hid C2
  obtain ⟨R, hR⟩ : ∃ R, mt f P t.data.toList = R := ⟨_, rfl⟩
  rw [hR] at C2
  rw [hR]
  clear h hM hR hc hn hF
  go_enter Tryz.func25, Tryz.ntmps25
  go_wp2_with (first
    | (go_at_call 63; refine C.out.mono ?_; rintro e w' ⟨rfl, rfl⟩)
    | (go_at_call 57; refine C2.out.mono ?_; rintro e w' ⟨rfl, hb⟩))
  go_ret
  exact ⟨rfl, hb⟩

/-- Block b is an automaton of New that matches P; all that is its own lies from lo to hi. -/
def AutoIn (lo hi : Nat) (W : World) (b : Nat) (P : List UInt8) (f : Bool) : Prop :=
  ∃ W0 : World, W0.heap.size = hi ∧ hi ≤ W.heap.size ∧ lo ≤ b ∧ b < hi ∧ (∀ k, lo ≤ k → k < hi → W.heap[k]? = W0.heap[k]?) ∧ P.length ≤ 255 ∧ noSt P ∧
    ((∃ n tb nv av, Closed (cntL f P) (sampL (cntL f P)) n ∧ n ≤ 256 ∧ AutoAt W0 b (.iface 75 (.pointer (some ⟨tb, 0, none⟩))) ∧
        MadeB lo W0 tb (clsTo f (sampL (cntL f P)) 256) (tabRows (cntL f P) (sampL (cntL f P)) n) (tabAccs (cntL f P) (sampL (cntL f P)) n) nv av) ∨
      (∃ nb, AutoAt W0 b (outV nb) ∧ NfaAt W0 nb P f ∧ lo ≤ nb))
theorem AutoIn.same {lo hi : Nat} {W W' : World} {b : Nat} {P : List UInt8} {f : Bool} (h : AutoIn lo hi W b P f) (hz : W.heap.size ≤ W'.heap.size) (hk : ∀ k, lo ≤ k → k < hi → W'.heap[k]? = W.heap[k]?) : AutoIn lo hi W' b P f := by
  obtain ⟨W0, h1, h2, h3, h4, h5, h6⟩ := h
  exact ⟨W0, h1, by omega, h3, h4, fun k a c => (hk k a c).trans (h5 k a c), h6⟩
theorem AutoIn.match {lo hi : Nat} {W : World} {b : Nat} {P : List UInt8} {f : Bool} (h : AutoIn lo hi W b P f) (t : ByteArray) (ht : t.size ≤ 1000000) :
    Calls Tryz.prog 25 #[.pointer (some ⟨b, 0, none⟩), .string t] W fun e w' => e = .returned (.bool (mt f P t.data.toList)) ∧ Below W.heap.size W w' := by
  obtain ⟨W0, h1, h2, h3, h4, h5, h6, h7, h8⟩ := h
  rcases h8 with ⟨n, tb, nv, av, hc, hn, ha, hM⟩ | ⟨nb, ha, ho, hlo⟩
  · exact tmatch_any ((h5 b h3 h4).trans ha) hc hn (hM.made (by omega) (fun k a c => h5 k a (by omega))) t ht
  · have hl := ho.lt
    exact omatch_any ((h5 b h3 h4).trans ha) ((h5 nb hlo (by omega)).trans ho) (by omega) h7 t ht
/-- What New returns. -/
theorem anew_in (p : ByteArray) (f : Bool) (most : Nat) (w : World) (hp : checkN p.size = 0) (HS : SortsN ((cntL f (normP p)).filter fun c => !wildC c).length) (h1 : 1 ≤ most) (h2 : most ≤ 256) :
    Calls Tryz.prog 20 #[.string p, .bool f, .int .i64 (most : Int)] w fun e w' => ∃ b, e = .returned (.tuple #[.pointer (some ⟨b, 0, none⟩), .int .i64 0]) ∧ AutoIn w.heap.size w'.heap.size w' b (normP p) f ∧ Below w.heap.size w w' := by
  refine (anew_any p f most w hp HS h1 h2).mono ?_
  have hp2 := (check_pos hp).2
  have hPl : (normP p).length ≤ 255 := Nat.le_trans (normP_len p) hp2
  rintro e w' ⟨h | h, hb⟩
  · obtain ⟨n, b, tb, nv, av, hC, hn, rfl, ha, _, hlo, hM⟩ := h
    exact ⟨b, rfl, ⟨w', rfl, Nat.le_refl _, hlo, ha.lt, fun _ _ _ => rfl, hPl, normP_no p, .inl ⟨n, tb, nv, av, hC, by omega, ha, hM⟩⟩, hb⟩
  · obtain ⟨b, nb, _, rfl, ha, ho, hlo, hl2⟩ := h
    exact ⟨b, rfl, ⟨w', rfl, Nat.le_refl _, hlo, ha.lt, fun _ _ _ => rfl, hPl, normP_no p, .inr ⟨nb, ha, ho, hl2⟩⟩, hb⟩
end Go.Proofs.YtnpgmekgmelamaaGreat
