/-
  What is proved: outlawlaw04.IdentEvents returns true for any two strings, a byte and a position: the ID of an event is $ followed by one to 64 allowed bytes: put together they are one as long as they are not too long; any other byte makes it none. No conditions.
-/
import Derived.Test.YtemomaeecelofaaIdEvents
namespace Go.Proofs.Ytemomaeecelofaa
open Go.RowKit

theorem evt_data (a : ByteArray) : (evt a).data.toList = 36 :: a.data.toList := by unfold evt; rw [cat_data]; rfl
theorem evt2_data (a b : ByteArray) : (evt2 a b).data.toList = 36 :: (a.data.toList ++ b.data.toList) := by unfold evt2; rw [cat_data, cat_data]; rfl
theorem evt_size (a : ByteArray) : (evt a).size = a.size + 1 := by rw [Lib.size_eq, evt_data, List.length_cons, ← Lib.size_eq]
theorem evt2_size (a b : ByteArray) : (evt2 a b).size = a.size + b.size + 1 := by rw [Lib.size_eq, evt2_data, List.length_cons, List.length_append, ← Lib.size_eq, ← Lib.size_eq]
theorem evL_cons (l : List UInt8) : evL (36 :: l) = (decide (l.length ≤ 64) && onlyL evC l) := by
  unfold evL
  have e1 : [36].isPrefixOf (36 :: l) = true := by simp [List.isPrefixOf]
  rw [e1, Bool.true_and, List.drop_one, List.tail_cons, List.length_cons]
  congr 1
  simp only [decide_eq_decide]
  omega
theorem evt3_data (a : ByteArray) (k : Nat) (c : UInt8) : (evt3 a k c).data.toList = 36 :: (a.data.toList.take k ++ c :: a.data.toList.drop (k + 1)) := by
  have e1 : (a.extract 0 k).data.toList = a.data.toList.take k := by rw [Lib.extract_eq]; simp
  have e2 : (a.extract (k + 1) a.size).data.toList = a.data.toList.drop (k + 1) := by
    rw [Lib.extract_eq]
    simp
    rw [List.take_of_length_le]
    rw [List.length_drop, ← Lib.size_eq]
    omega
  unfold evt3
  rw [cat_data, cat_data, cat_data, e1, e2]
  simp
/-- One byte in the place of another. -/
theorem only_put {p : UInt8 → Bool} {l : List UInt8} (h : onlyL p l = true) (k : Nat) (c : UInt8) : onlyL p (l.take k ++ c :: l.drop (k + 1)) = p c := by
  simp only [onlyL, Bool.and_eq_true, List.all_eq_true] at h
  have h1 : (l.take k).all p = true := List.all_eq_true.2 fun x hx => h.1 x (List.mem_of_mem_take hx)
  have h2 : (l.drop (k + 1)).all p = true := List.all_eq_true.2 fun x hx => h.1 x (List.mem_of_mem_drop hx)
  unfold onlyL
  rw [List.all_append, List.all_cons, h1, h2]
  simp
theorem put_length {l : List UInt8} {k : Nat} (hk : k < l.length) (c : UInt8) : (l.take k ++ c :: l.drop (k + 1)).length = l.length := by
  simp
  omega

set_option maxHeartbeats 1000000 in
theorem events_skip (a b : ByteArray) (c x : Int) (w : World) (h : 200 < a.size ∨ (a.size ≤ 200 ∧ 200 < b.size)) :
    Calls Try.prog 7 #[.string a, .string b, .int .u8 c, .int .i64 x] w fun e w' => e = .returned (.bool true) ∧ Below w.heap.size w w' := by
  have C0 := Lib.hid (lives_any w)
  rcases h with h | ⟨h1, h⟩
  · have g1 : decide ((200 : Int) < (a.size : Int)) = true := by simp; omega
    clear h
    go_enter Try.func7, Try.ntmps7
    go_wp2_with (go_at_call 8; refine C0.out.mono ?_; rintro e w1 ⟨rfl, b1⟩)
    go_ret
    exact ⟨rfl, b1⟩
  · have g1 : decide ((200 : Int) < (a.size : Int)) = false := by simp; omega
    have g2 : decide ((200 : Int) < (b.size : Int)) = true := by simp; omega
    clear h h1
    go_enter Try.func7, Try.ntmps7
    go_wp2_with (go_at_call 8; refine C0.out.mono ?_; rintro e w1 ⟨rfl, b1⟩)
    go_ret
    exact ⟨rfl, b1⟩

/-- The law, for every input. -/
theorem events_any (a b : ByteArray) (c x : Int) (hc : (Lit.int .u8 c).wf = true) (w : World) :
    Calls Try.prog 7 #[.string a, .string b, .int .u8 c, .int .i64 x] w fun e w' => e = .returned (.bool true) ∧ Below w.heap.size w w' := by
  by_cases h : 200 < a.size ∨ (a.size ≤ 200 ∧ 200 < b.size)
  · exact events_skip a b c x w h
  have ha : a.size ≤ 200 := by omega
  have hb : b.size ≤ 200 := by omega
  obtain ⟨u, rfl⟩ : ∃ u : UInt8, c = (u.toNat : Int) := by
    have hr : 0 ≤ c ∧ c ≤ 255 := by
      simp [Lit.wf, IntKind.min, IntKind.max, show IntKind.u8.signed = false from rfl, show IntKind.u8.bits = 8 from rfl] at hc
      exact hc
    refine ⟨UInt8.ofNat c.toNat, ?_⟩
    rw [UInt8.toNat_ofNat']
    omega
  have hza := Lib.size_eq a
  have hzb := Lib.size_eq b
  have c1 := fun w => event_any (evt a) w (by rw [evt_size]; omega)
  have c2 := fun w => event_any (evt b) w (by rw [evt_size]; omega)
  have c3 := fun w => event_any (evt2 a b) w (by rw [evt2_size]; omega)
  rw [evt_data, evL_cons] at c1
  cases hx : decide (a.data.toList.length ≤ 64) && onlyL evC a.data.toList with
  | false =>
    rw [hx] at c1
    refine events_no a b u x _ _ w ha hb c1 c2 c3 ?_
    intro h2
    rw [evt2_data, evL_cons, List.length_append, Bool.and_eq_true, decide_eq_true_eq] at h2
    cases hl : a.data.toList with
    | nil => rw [hza, hl]; rfl
    | cons y l =>
      have ho : onlyL evC a.data.toList = true := by
        have := h2.2
        simp only [onlyL, List.all_append, Bool.and_eq_true] at this ⊢
        exact ⟨this.1.1, by rw [hl]; rfl⟩
      rw [ho, Bool.and_true, decide_eq_false_iff_not] at hx
      omega
  | true =>
    rw [hx] at c1
    rw [Bool.and_eq_true, decide_eq_true_eq] at hx
    obtain ⟨hx1, hx2⟩ := hx
    have h0 : 0 < a.size := by
      rw [hza]
      cases hl : a.data.toList with
      | nil => rw [hl] at hx2; simp [onlyL] at hx2
      | cons y l => simp
    refine events_yes a b u x _ w ha hb h0 c1 c2 ?_ ?_
    · intro h2 w
      rw [evt_data, evL_cons, Bool.and_eq_true] at h2
      have hall := h2.2
      simp only [onlyL, Bool.and_eq_true] at hall
      have := c3 w
      rw [evt2_data, evL_cons, only_app _ _ hx2, hall.1, Bool.and_true, List.length_append, ← hza, ← hzb] at this
      exact this
    · intro k hk w
      have hd := evt3_data a k u
      have hkl : k < a.data.toList.length := by omega
      have := event_any (evt3 a k u) w (by rw [Lib.size_eq, hd, List.length_cons, put_length hkl]; omega)
      rw [hd, evL_cons, put_length hkl, decide_eq_true hx1, Bool.true_and, only_put hx2] at this
      exact this

open Go.ChangeShapes Go.WideShapes Go.ChangeAt
open Go.ChangeMaps (open_string shut_string)
theorem events_own : ownKnob Try.prog.godebug = none := by kernel_rfl

set_option maxRecDepth 100000 in
theorem events_lifted (os : Os) (started : os.Started) (H : Type) (enc : TypeId × Value → H) :
    ReturnsInHanded {} Try.checked os 7 .any (Rows.identEventsSpec.pre6 enc Try.prog Try.f7 Rows.identEventsRow.domain false) (Rows.identEventsSpec.post enc Try.prog Try.f7 false true false false) := by
  refine returnsInHanded_of_change (C := Try.checked) events_own started (by kernel_rfl) Try.func7
    (ChangeSpec.witness6 (enc := enc) (C := Try.checked) false ⟨#[], #[.string ByteArray.empty, .string ByteArray.empty, .int .u8 0, .int .i64 0], []⟩ 8 (by kernel_rfl) (by kernel_rfl) (by kernel_rfl) (by kernel_rfl)) ?_
  intro W base args ds gs before hval0 hW hcnd _
  have hval : ∀ (j : Nat) t v, Try.f7.params[j]? = some t → args[j]? = some v → Value.okWide Try.prog W .any base t v := hval0
  have hW' := hW
  obtain ⟨p, q, hA0, hV, rfl, hfz, hnd⟩ := hW
  have hA : DataW.TrodAll enc Try.prog W 0 (fun _ => true) true Try.f7.params.toList args.toList ds p := hA0
  rw [Try.params7] at hA hval
  obtain ⟨v0, vs0, d0, ds0, p0, q0, hargs, rfl, rfl, h0, r0⟩ := trodAll_cons hA
  obtain ⟨v1, vs1, d1, ds1, p1, q1, rfl, rfl, rfl, h1, r1⟩ := trodAll_cons r0
  obtain ⟨v2, vs2, d2, ds2, p2, q2, rfl, rfl, rfl, h2, r2⟩ := trodAll_cons r1
  obtain ⟨v3, vs3, d3, ds3, p3, q3, rfl, rfl, rfl, h3, r3⟩ := trodAll_cons r2
  obtain ⟨rfl, rfl, rfl⟩ := trodAll_nil r3
  obtain rfl : args = #[v0, v1, v2, v3] := by cases args; simp_all
  obtain ⟨rfl, rfl⟩ := trodVars_none hV
  obtain ⟨a0, rfl, rfl, rfl, w0⟩ := open_string Try.underlying9 (hval 0 9 v0 rfl rfl) h0
  obtain ⟨a1, rfl, rfl, rfl, w1⟩ := open_string Try.underlying9 (hval 1 9 v1 rfl rfl) h1
  obtain ⟨a2, rfl, rfl, rfl, w2⟩ := open_int Try.underlying5 (hval 2 5 v2 rfl rfl) h2
  obtain ⟨a3, rfl, rfl, rfl, w3⟩ := open_int Try.underlying3 (hval 3 3 v3 rfl rfl) h3
  clear hA0 hval0
  simp only [List.append_nil] at hW'
  refine (events_any a0 a1 a2 a3 w2 W).mono fun e W' ⟨he, bel⟩ => ?_
  subst he
  exact ⟨_, rfl, _, _, _, [], _, [], hW', trodAll_mk1 (shut_bool Try.underlying4 _), (trodAll_cons_mk (shut_string Try.underlying9 w0) (trodAll_cons_mk (shut_string Try.underlying9 w1) (trodAll_cons_mk (shut_int Try.underlying5 w2) (trodAll_cons_mk (shut_int Try.underlying3 w3) trodAll_mk0)))), rfl, bel.frame _, fun h => by cases h⟩

/-- The statement. -/
theorem events_said : Rows.IdentEventsSaid :=
  OpenClaim.holds_of_wide 7 Try.f7 rfl rfl rfl rfl rfl rfl rfl ⟨rfl, rfl, rfl, rfl, rfl⟩ rfl rfl rfl rfl rfl (by kernel_rfl) Try.func7 (by kernel_rfl)
    (of_decide_eq_true (by kernel_rfl)) (by unfold Func.isWrapper; first | (rw [if_pos (by decide +kernel)]; kernel_rfl) | (rw [if_neg (by decide +kernel)]; exact ⟨rfl, rfl⟩))
    (fun os started H enc _ => events_lifted os started H enc)
#print axioms events_said
end Go.Proofs.Ytemomaeecelofaa
