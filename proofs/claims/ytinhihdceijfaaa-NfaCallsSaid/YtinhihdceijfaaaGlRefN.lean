/-
  What is proved: what outlawref07.Norm returns at any string of at most 1,000,000 bytes: GlMath's normL. What lay in memory before stands as it stood.
-/
import Derived.Test.YtinhihdceijfaaaGlRef
namespace Go.Proofs.Ytinhihdceijfaaa
open Go.RowKit

theorem ref_byte : (Try.prog.info? 5).map (fun i => (i.zero, i.size, i.bytes)) = some (some (.int .u8 0), 1, 1) := by kernel_rfl

/-- The bytes of a row, as a string. -/
theorem conv_own {w : World} {B : Nat} {v : Value} {l : List UInt8} (h : w.ownsRowF B 5 1 v l.length (Lib.byteCells l)) :
    (convert 59 9 v).run Try.prog w = .ok (.string (str l)) w := by
  rcases h.2 with ⟨rfl, h0⟩ | ⟨g, cap, cur, fz, rfl, _⟩
  · have : l = [] := List.length_eq_zero_iff.1 h0
    subst this
    exact run_convert_bytes_nil (P := Try.prog) w 59 5 Try.underlying59 Try.underlying5 0 0 9 Try.underlying9
  · refine run_convert_bytes_back (P := Try.prog) w 59 9 5 ⟨g, 0, none⟩ cap l Try.underlying59 Try.underlying5 Try.underlying9 (fun j hj => ?_)
    refine h.cells (g := g) rfl j _ ?_
    simp [Lib.byteCells, hj]

/-- One byte more, of a block of its own, onto a row. -/
theorem app1 {ops : Array Oper} {rest : List Oper} {o : Oper} {a : Act} {Q : Exit → Act → World → Prop} {w : World} (B : Nat) (c : Int) (v : Value) (n : Nat) (xs : List Value) (hown : w.ownsRowF B 5 1 v n xs) (hn : n ≤ 3000000) (hB : B ≤ w.heap.size)
    (hgd : o.guard = none) (sl x : Operand) (ho : o.op = .call { callee := .builtin .append, args := #[sl, x], argTypes := #[59, 59] })
    (hs : a.eval sl = v) (hx : a.eval x = .slice (some ⟨w.heap.size, 0, none⟩) 1 1)
    (h : ∀ v' w', w'.ownsRowF B 5 1 v' (n + 1) (xs ++ [.int .u8 c]) → (w.alloc (.cells #[.int .u8 c] 5)).grownBy w' v.ownBlock → wpList Try.prog ops Q rest (a.put o.dst v') w') :
    wpList Try.prog ops Q (o :: rest) a (w.alloc (.cells #[.int .u8 c] 5)) := by
  obtain ⟨i0, hi, hz0, hz1, hz2⟩ := info_parts ref_byte
  refine wpList_append_ownF _ hgd sl x 59 ho B 5 i0 (.int .u8 0) 1 1 Try.underlying59 hi hz0 hz1 hz2 rfl (by decide) v n xs hs (hown.alloc _) ⟨w.heap.size, 0, none⟩ 1 1 [.int .u8 c] hx rfl ?c1 ?c2 ?c3 ?c4 ?c5 ?_
  case c1 =>
    intro j u hj
    match j, hj with
    | 0, hj => simp at hj; subst hj; simp [Addr.add]
  case c2 => intro u hu; simp at hu; subst hu; rfl
  case c3 => unfold maxLen; omega
  case c4 => omega
  case c5 => simp; omega
  intro v' w' h1 h2 _
  exact h v' w' h1 h2

theorem below_app {w0 w w' : World} {B : Nat} {c : Int} {v : Value} {n : Nat} {xs : List Value} (hb : Below B w0 w) (hown : w.ownsRowF B 5 1 v n xs) (hB : B ≤ w.heap.size) (hg : (w.alloc (.cells #[.int .u8 c] 5)).grownBy w' v.ownBlock) : Below B w0 w' :=
  (hb.alloc (by omega) _).grown hg (by simp; omega) (fun k hk => (hown.lt k hk).1)

set_option maxHeartbeats 4000000 in
theorem refNorm (p : ByteArray) (w : World) (hp : p.size ≤ 1000000) :
    Calls Try.prog 38 #[.string p] w fun e w' => e = .returned (.string (str (normL false p.data.toList))) ∧ Below w.heap.size w w' := by
  obtain ⟨R, HR⟩ : ∃ R, Hid (normL false p.data.toList = R) := ⟨_, Lib.hid rfl⟩
  rw [HR.out]
  go_enter Try.func38, Try.ntmps38
  go_wp2
  go_loopg [3, 4, 5] (p.size + 1) (fun gk s3 s4 s5 wr => ∃ (k : Nat) (b : Bool) (l : List UInt8) (v : Value), k + gk = p.size + 1 ∧ s3 = v ∧ s4 = .bool b ∧ s5 = .int .i64 k ∧ l.length ≤ 2 * k ∧ Hid (k ≤ p.size → l ++ normL b (p.data.toList.drop k) = R) ∧ Hid (k = p.size + 1 → l = R) ∧ Hid (wr.ownsRowF w.heap.size 5 1 v l.length (Lib.byteCells l)) ∧ Hid (Below w.heap.size w wr))
  case atStart => exact ⟨0, false, [], .slice none 0 0, by omega, rfl, rfl, rfl, by simp, Lib.hid fun _ => HR.out, Lib.hid fun h => by omega, Lib.hid (World.ownsRowF_nil _ _ _ _), Lib.hid (Below.refl _ _)⟩
  case round =>
    obtain ⟨k, b, l, v, hkg, rfl, rfl, rfl, hl, HI, HJ, HU, HB⟩ := hrel
    cases gk with
    | zero =>
      have hkz : ¬ ((k : Int) ≤ (p.size : Int)) := by omega
      have HE := HJ.out (by omega)
      subst HE
      have hcv := conv_own HU.out
      go_wp2
      go_ret
      exact ⟨rfl, HB.out⟩
    | succ g' =>
      have hkz : (k : Int) ≤ (p.size : Int) := by omega
      have hI := HI.out (by omega)
      have hsz := HB.out.size
      by_cases hk : k = p.size
      · have hlz : ¬ ((k : Int) < (p.size : Int)) := by omega
        have hlz' : decide ((k : Int) < (p.size : Int)) = false := decide_eq_false hlz
        have ez : ((k : Int) == (p.size : Int)) = true := by simp; omega
        rw [drop_end p k (by omega)] at hI
        cases b with
        | false =>
          have HE : Hid (l = R) := Lib.hid (by rw [← hI]; simp [normL])
          clear hI
          go_wp2
          go_roundg g'
          case measure => omega
          case rel => exact ⟨k + 1, false, l, _, by omega, rfl, rfl, iv (by omega), by omega, Lib.hid fun h => by omega, Lib.hid fun _ => HE.out, HU, HB⟩
        | true =>
          have HE : Hid (l ++ [42] = R) := Lib.hid (by rw [← hI]; simp [normL])
          clear hI
          have hU := HU.out
          go_wp2_with (at_builtin; refine app1 w.heap.size 42 _ _ _ hU (by first | omega | (simp; omega)) (by omega) rfl _ _ rfl rfl rfl ?_)
          intro v' w2 hown' hgrow
          go_wp2
          go_roundg g'
          case measure => omega
          case rel => exact ⟨k + 1, false, l ++ [42], v', by omega, rfl, rfl, iv (by omega), by simp; omega, Lib.hid fun h => by omega, Lib.hid fun _ => HE.out, Lib.hid (by rw [Lib.byteCells_append, List.length_append]; exact hown'), Lib.hid (below_app HB.out HU.out hsz hgrow)⟩
      · have hlt : k < p.size := by omega
        have hlz : (k : Int) < (p.size : Int) := by omega
        have ez : ((k : Int) == (p.size : Int)) = false := by simp; omega
        have hd := drop_at p k hlt
        obtain ⟨c, hc⟩ : ∃ c : UInt8, p[k]'hlt = c := ⟨_, rfl⟩
        rw [hd, hc] at hI
        clear hd
        have CW := Lib.hid (refWild c)
        by_cases h42 : c = 42
        · have e42 : (c.toNat : Int) = 42 := by rw [h42]; rfl
          have CW : Hid (∀ w, Calls Try.prog 51 #[.int .u8 42] w fun e w' => e = .returned (.bool true) ∧ w' = w) := Lib.hid fun w => refWild 42 w
          have HN : Hid (l ++ normL true (p.data.toList.drop (k + 1)) = R) := Lib.hid (by rw [← hI, h42]; simp [normL])
          clear hI h42
          cases b
          all_goals
            go_wp2_with (go_at_call 51; refine (CW.out _).mono ?_; rintro e w' ⟨rfl, rfl⟩)
            go_roundg g'
            case measure => omega
            case rel => exact ⟨k + 1, true, l, _, by omega, rfl, rfl, iv (by omega), by omega, Lib.hid fun _ => HN.out, Lib.hid fun h => by omega, HU, HB⟩
        · have e42 : ((c.toNat : Int) == 42) = false := by rw [beq_42]; simpa using h42
          by_cases h63 : c = 63 ∨ b = false
          · have HN : Hid ((l ++ [c]) ++ normL b (p.data.toList.drop (k + 1)) = R) := Lib.hid (by
              rw [← hI]
              rcases h63 with rfl | rfl <;> simp [normL, h42])
            have hw : b = true → wildC c = true := fun hb => by rcases h63 with rfl | h; rfl; rw [hb] at h; cases h
            clear hI h42 h63
            cases b with
            | false =>
              clear hw
              have hU := HU.out
              go_wp2_with (at_builtin; refine app1 w.heap.size (c.toNat : Int) _ _ _ hU (by first | omega | (simp; omega)) (by omega) rfl _ _ rfl rfl rfl ?_)
              intro v' w2 hown' hgrow
              go_wp2
              go_roundg g'
              case measure => omega
              case rel => exact ⟨k + 1, false, l ++ [c], v', by omega, rfl, rfl, iv (by omega), by simp; omega, Lib.hid fun _ => HN.out, Lib.hid fun h => by omega, Lib.hid (by rw [Lib.byteCells_append, List.length_append]; exact hown'), Lib.hid (below_app HB.out HU.out hsz hgrow)⟩
            | true =>
              rw [hw rfl] at CW
              clear hw
              have hU := HU.out
              go_wp2_with (first
                | (go_at_call 51; refine (CW.out _).mono ?_; rintro e w' ⟨rfl, rfl⟩)
                | (at_builtin; refine app1 w.heap.size (c.toNat : Int) _ _ _ hU (by first | omega | (simp; omega)) (by omega) rfl _ _ rfl rfl rfl ?_))
              intro v' w2 hown' hgrow
              go_wp2
              go_roundg g'
              case measure => omega
              case rel => exact ⟨k + 1, true, l ++ [c], v', by omega, rfl, rfl, iv (by omega), by simp; omega, Lib.hid fun _ => HN.out, Lib.hid fun h => by omega, Lib.hid (by rw [Lib.byteCells_append, List.length_append]; exact hown'), Lib.hid (below_app HB.out HU.out hsz hgrow)⟩
          · have hb : b = true := by cases b; exact absurd (Or.inr rfl) h63; rfl
            have hne : c ≠ 63 := fun e => h63 (Or.inl e)
            subst hb
            have hw : wildC c = false := by simp [wildC, h42, hne]
            rw [hw] at CW
            have HN : Hid ((l ++ [42] ++ [c]) ++ normL false (p.data.toList.drop (k + 1)) = R) := Lib.hid (by rw [← hI]; simp [normL, h42, hne])
            clear hI h42 hne h63 hw
            have hU := HU.out
            go_wp2_with (first
              | (go_at_call 51; refine (CW.out _).mono ?_; rintro e w' ⟨rfl, rfl⟩)
              | (at_builtin; refine app1 w.heap.size 42 _ _ _ hU (by first | omega | (simp; omega)) (by omega) rfl _ _ rfl rfl rfl ?_))
            intro v1 w2 hown1 hgrow1
            have hb2 : Below w.heap.size w w2 := below_app HB.out HU.out hsz hgrow1
            have hsz2 := hb2.size
            clear hU
            go_wp2_with (at_builtin; refine app1 w.heap.size (c.toNat : Int) _ _ _ hown1 (by first | omega | (simp; omega)) (by omega) rfl _ _ rfl rfl rfl ?_)
            intro v2 w3 hown2 hgrow2
            go_wp2
            go_roundg g'
            case measure => omega
            case rel => exact ⟨k + 1, false, l ++ [42] ++ [c], v2, by omega, rfl, rfl, iv (by omega), by simp; omega, Lib.hid fun _ => HN.out, Lib.hid fun h => by omega, Lib.hid (by simpa [Lib.byteCells] using hown2), Lib.hid (below_app hb2 hown1 hsz2 hgrow2)⟩
end Go.Proofs.Ytinhihdceijfaaa
