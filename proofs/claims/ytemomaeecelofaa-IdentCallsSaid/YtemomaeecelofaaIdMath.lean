/-
  What is proved: plain facts on the bytes of identifiers: what a server, a user, a room, an event's ID is, as functions on lists of bytes, and how these stand to one another and to lower case. No conditions. Nothing here speaks of the program.
-/
import Derived.Lib.Bytealg
import Derived.Lib.Strings
import Derived.Lib.IndexMore
namespace Go.Proofs.Ytemomaeecelofaa
open Go

def lowC (c : UInt8) : Bool := decide (97 ≤ c.toNat) && decide (c.toNat ≤ 122)
def digC (c : UInt8) : Bool := decide (48 ≤ c.toNat) && decide (c.toNat ≤ 57)
def capC (c : UInt8) : Bool := decide (65 ≤ c.toNat) && decide (c.toNat ≤ 90)
/-- Letters (capitals where they count), digits, marks. -/
def okC (marks : List UInt8) (cap : Bool) (c : UInt8) : Bool := if lowC c || digC c then true else if capC c then cap else marks.contains c
/-- At least one byte, and only such. -/
def onlyL (p : UInt8 → Bool) (l : List UInt8) : Bool := l.all p && !l.isEmpty
/-- Ahead of the first colon; behind it; is there one? -/
def pre (l : List UInt8) : List UInt8 := l.takeWhile (fun c => c != 58)
def post (l : List UInt8) : List UInt8 := (l.dropWhile (fun c => c != 58)).drop 1
def hasC (l : List UInt8) : Bool := l.contains 58
def hostC : UInt8 → Bool := okC [46, 45] true
def userC : UInt8 → Bool := okC [46, 95, 61, 45, 47, 43] false
def roomC : UInt8 → Bool := okC [46, 95, 45] true
def evC : UInt8 → Bool := okC [95, 45, 46, 126, 47] true
def hostL (l : List UInt8) : Bool := onlyL hostC l
def portL (l : List UInt8) : Bool := decide (l.length ≤ 5) && onlyL digC l
def srvL (l : List UInt8) : Bool := decide (l.length ≤ 128) && (if hasC l then hostL (pre l) && portL (post l) else hostL l)
def onL (sign : UInt8) (p : UInt8 → Bool) (l : List UInt8) : Bool :=
  decide (l.length ≤ 255) && (hasC l && (([sign].isPrefixOf (pre l) && onlyL p ((pre l).drop 1)) && srvL (post l)))
def userL (l : List UInt8) : Bool := onL 64 userC l
def roomL (l : List UInt8) : Bool := onL 33 roomC l
def evL (l : List UInt8) : Bool := decide (l.length ≤ 65) && ([36].isPrefixOf l && onlyL evC (l.drop 1))
def kindL (l : List UInt8) : Nat := if userL l then 1 else if roomL l then 2 else if evL l then 3 else if srvL l then 4 else 0
def lowerC (c : UInt8) : UInt8 := if capC c then c + 32 else c
def lowerL (l : List UInt8) : List UInt8 := l.map lowerC
def srvOf (l : List UInt8) : List UInt8 := if userL l then lowerL (post l) else []

/-- Whatever holds of each of the 256 bytes. -/
theorem all_bytes {p : UInt8 → Bool} (h : (List.range 256).all (fun n => p (UInt8.ofNat n)) = true) (c : UInt8) : p c = true := by
  have := List.all_eq_true.1 h c.toNat (List.mem_range.2 c.toNat_lt)
  simpa using this

/-! ## The cut at a colon -/
theorem pre_app (l : List UInt8) : hasC l = true → l = pre l ++ 58 :: post l := by
  induction l with
  | nil => intro h; cases h
  | cons a l ih =>
    intro h
    by_cases e : a = 58
    · subst e; simp [pre, post]
    · have : hasC l = true := by
        simp [hasC] at h
        rcases h with h | h
        · exact absurd h.symm e
        · simpa [hasC] using h
      have := ih this
      have e' : (a != 58) = true := by simpa using e
      have p1 : pre (a :: l) = a :: pre l := by simp [pre, e]
      have p2 : post (a :: l) = post l := by simp [post, e]
      rw [p1, p2, List.cons_append, ← this]

theorem has_cons {a : UInt8} {l : List UInt8} (h : hasC (a :: l) = false) : (a != 58) = true ∧ hasC l = false := by
  simp [hasC] at h
  exact ⟨by simpa using fun e => h.1 e.symm, by simpa [hasC] using h.2⟩

theorem pre_none {l : List UInt8} (h : hasC l = false) : pre l = l := by
  induction l with
  | nil => rfl
  | cons a l ih =>
    obtain ⟨ha, hl⟩ := has_cons h
    have := ih hl
    unfold pre at this ⊢
    rw [List.takeWhile_cons, ha, this]; rfl

theorem post_none {l : List UInt8} (h : hasC l = false) : post l = [] := by
  induction l with
  | nil => rfl
  | cons a l ih =>
    obtain ⟨ha, hl⟩ := has_cons h
    have := ih hl
    unfold post at this ⊢
    rw [List.dropWhile_cons, ha]
    exact this

theorem pre_no (l : List UInt8) : hasC (pre l) = false := by
  induction l with
  | nil => rfl
  | cons a l ih =>
    unfold pre at ih ⊢
    rw [List.takeWhile_cons]
    split
    · rename_i ha
      simp [hasC] at ih ⊢
      exact ⟨fun e => by simp [← e] at ha, ih⟩
    · rfl

theorem pre_mk {n s : List UInt8} (h : hasC n = false) : pre (n ++ 58 :: s) = n := by
  induction n with
  | nil => simp [pre]
  | cons a n ih =>
    simp [hasC] at h
    have ha : a ≠ 58 := fun e => h.1 e.symm
    have hn : hasC n = false := by simpa [hasC] using h.2
    have := ih hn
    simp only [pre] at this ⊢
    simp [ha, this]

theorem post_mk {n s : List UInt8} (h : hasC n = false) : post (n ++ 58 :: s) = s := by
  induction n with
  | nil => simp [post]
  | cons a n ih =>
    simp [hasC] at h
    have ha : a ≠ 58 := fun e => h.1 e.symm
    have hn : hasC n = false := by simpa [hasC] using h.2
    have := ih hn
    simp only [post] at this ⊢
    simp [ha, this]

theorem has_mk (n s : List UInt8) : hasC (n ++ 58 :: s) = true := by simp [hasC]

theorem take_pre {l : List UInt8} (h : hasC l = true) : l.take (pre l).length = pre l ∧ l.drop ((pre l).length + 1) = post l ∧ (pre l).length + 1 + (post l).length = l.length := by
  have e := pre_app l h
  generalize pre l = a at e ⊢
  generalize post l = b at e ⊢
  subst e
  refine ⟨by simp, ?_, by simp; omega⟩
  rw [← List.drop_drop, List.drop_left]; rfl

/-- strings.Cut at ":". -/
theorem index58 (l : List UInt8) : Lib.indexByte l 58 = if hasC l then ((pre l).length : Int) else -1 := by
  induction l with
  | nil => rfl
  | cons a l ih =>
    unfold Lib.indexByte
    by_cases e : a = 58
    · subst e; simp [hasC, pre]
    · have e' : (a == 58) = false := by simpa using e
      have hc : hasC (a :: l) = hasC l := by
        have : ((58 : UInt8) == a) = false := by simpa using fun h => e h.symm
        simp only [hasC, List.contains_cons, this, Bool.false_or]
      have hp : pre (a :: l) = a :: pre l := by simp [pre, e]
      rw [e', ih, hc, hp]
      cases hasC l with
      | false => simp
      | true => simp <;> omega

/-! ## Users, rooms, servers made of parts -/
theorem onL_mk {sign : UInt8} {p : UInt8 → Bool} {n s : List UInt8} (h : hasC n = false) (hs : sign ≠ 58) :
    onL sign p (sign :: n ++ 58 :: s) = (decide ((sign :: n ++ 58 :: s).length ≤ 255) && (onlyL p n && srvL s)) := by
  have h2 : hasC (sign :: n) = false := by
    simp only [hasC, List.contains_cons, Bool.or_eq_false_iff]
    exact ⟨by simpa using fun e => hs e.symm, h⟩
  unfold onL
  rw [has_mk, pre_mk h2, post_mk h2]
  simp

theorem userL_mk {n s : List UInt8} (h : hasC n = false) : userL (64 :: n ++ 58 :: s) = (decide ((64 :: n ++ 58 :: s).length ≤ 255) && (onlyL userC n && srvL s)) := onL_mk h (by decide)

theorem userL_post {l : List UInt8} (h : userL l = true) : hasC l = true := by
  simp only [userL, onL, Bool.and_eq_true] at h
  exact h.2.1

/-! ## Lower case -/
theorem low_len (l : List UInt8) : (lowerL l).length = l.length := by simp [lowerL]
theorem lowC_twice (c : UInt8) : lowerC (lowerC c) = lowerC c := by
  have := all_bytes (p := fun c => decide (lowerC (lowerC c) = lowerC c)) (by decide +kernel) c
  simpa using this
theorem low_twice (l : List UInt8) : lowerL (lowerL l) = lowerL l := by simp [lowerL, lowC_twice]
theorem low58 (c : UInt8) : (lowerC c != 58) = (c != 58) := by
  have := all_bytes (p := fun c => decide ((lowerC c != 58) = (c != 58))) (by decide +kernel) c
  simpa using this
theorem low58' (c : UInt8) : (58 == lowerC c) = (58 == c) := by
  have := all_bytes (p := fun c => decide ((58 == lowerC c) = (58 == c))) (by decide +kernel) c
  simpa using this
theorem low_host (c : UInt8) : hostC (lowerC c) = hostC c := by
  have := all_bytes (p := fun c => decide (hostC (lowerC c) = hostC c)) (by decide +kernel) c
  simpa using this
theorem low_dig (c : UInt8) : digC (lowerC c) = digC c := by
  have := all_bytes (p := fun c => decide (digC (lowerC c) = digC c)) (by decide +kernel) c
  simpa using this
theorem low_room (c : UInt8) : roomC (lowerC c) = roomC c := by
  have := all_bytes (p := fun c => decide (roomC (lowerC c) = roomC c)) (by decide +kernel) c
  simpa using this
theorem low_ev (c : UInt8) : evC (lowerC c) = evC c := by
  have := all_bytes (p := fun c => decide (evC (lowerC c) = evC c)) (by decide +kernel) c
  simpa using this
theorem low_user (c : UInt8) : (!userC c || lowerC c == c) = true := all_bytes (p := fun c => !userC c || lowerC c == c) (by decide +kernel) c
theorem low33 (c : UInt8) : (33 == lowerC c) = (33 == c) := by
  have := all_bytes (p := fun c => decide ((33 == lowerC c) = (33 == c))) (by decide +kernel) c
  simpa using this
theorem low36 (c : UInt8) : (36 == lowerC c) = (36 == c) := by
  have := all_bytes (p := fun c => decide ((36 == lowerC c) = (36 == c))) (by decide +kernel) c
  simpa using this
theorem low64 (c : UInt8) : (64 == lowerC c) = (64 == c) := by
  have := all_bytes (p := fun c => decide ((64 == lowerC c) = (64 == c))) (by decide +kernel) c
  simpa using this

theorem low_has (l : List UInt8) : hasC (lowerL l) = hasC l := by
  induction l with
  | nil => rfl
  | cons a l ih =>
    simp only [hasC, lowerL] at ih
    simp only [hasC, lowerL, List.map_cons, List.contains_cons, low58', ih]
theorem low_pre (l : List UInt8) : pre (lowerL l) = lowerL (pre l) := by
  induction l with
  | nil => rfl
  | cons a l ih =>
    simp only [pre, lowerL] at ih
    simp only [pre, lowerL, List.map_cons, List.takeWhile_cons, low58, ih]
    split <;> simp
theorem low_post (l : List UInt8) : post (lowerL l) = lowerL (post l) := by
  have : (lowerL l).dropWhile (fun c => c != 58) = lowerL (l.dropWhile (fun c => c != 58)) := by
    induction l with
    | nil => rfl
    | cons a l ih =>
      simp only [lowerL] at ih
      simp only [lowerL, List.map_cons, List.dropWhile_cons, low58, ih]
      split <;> simp
  unfold post
  rw [this]
  simp [lowerL]
theorem low_only {p : UInt8 → Bool} (h : ∀ c, p (lowerC c) = p c) (l : List UInt8) : onlyL p (lowerL l) = onlyL p l := by
  simp only [onlyL, lowerL, List.all_map]
  congr 1
  · congr 1; funext c; exact h c
  · simp
theorem low_srv (l : List UInt8) : srvL (lowerL l) = srvL l := by
  simp only [srvL, hostL, portL, low_has, low_pre, low_post, low_len, low_only low_host, low_only low_dig]
theorem low_sign {g : UInt8} (h : ∀ c, (g == lowerC c) = (g == c)) (l : List UInt8) : [g].isPrefixOf (lowerL l) = [g].isPrefixOf l := by
  cases l with
  | nil => rfl
  | cons a l => simp only [lowerL, List.map_cons, List.isPrefixOf, h]
theorem low_drop (l : List UInt8) (k : Nat) : (lowerL l).drop k = lowerL (l.drop k) := by simp [lowerL]
theorem low_roomL (l : List UInt8) : roomL (lowerL l) = roomL l := by
  simp only [roomL, onL, low_has, low_pre, low_post, low_len, low_sign low33, low_drop, low_only low_room, low_srv]
theorem low_evL (l : List UInt8) : evL (lowerL l) = evL l := by
  simp only [evL, low_len, low_sign low36, low_drop, low_only low_ev]
theorem low_userL {l : List UInt8} (h : userL l = true) : userL (lowerL l) = true := by
  simp only [userL, onL, low_has, low_pre, low_post, low_len, low_sign low64, low_drop, low_srv] at h ⊢
  simp only [Bool.and_eq_true] at h ⊢
  obtain ⟨h1, h2, ⟨h3, h4⟩, h5⟩ := h
  refine ⟨h1, h2, ⟨h3, ?_⟩, h5⟩
  have : lowerL ((pre l).drop 1) = (pre l).drop 1 := by
    simp only [onlyL, Bool.and_eq_true, List.all_eq_true] at h4
    unfold lowerL
    rw [List.map_congr_left (g := id), List.map_id]
    intro c hc
    have := low_user c
    rw [h4.1 c hc] at this
    simpa using this
  rw [this]; exact h4

/-! ## No two kinds -/
theorem sign_pre {g : UInt8} (l : List UInt8) (h : [g].isPrefixOf (pre l) = true) : [g].isPrefixOf l = true := by
  cases l with
  | nil => exact h
  | cons a l =>
    unfold pre at h
    rw [List.takeWhile_cons] at h
    split at h
    · simpa [List.isPrefixOf] using h
    · simp [List.isPrefixOf] at h
theorem on_head {g : UInt8} {p : UInt8 → Bool} {l : List UInt8} (h : onL g p l = true) : [g].isPrefixOf l = true := by
  simp only [onL, Bool.and_eq_true] at h
  exact sign_pre l h.2.2.1.1
theorem ev_head {l : List UInt8} (h : evL l = true) : [36].isPrefixOf l = true := by
  simp only [evL, Bool.and_eq_true] at h
  exact h.2.1
theorem srv_head {l : List UInt8} (h : srvL l = true) : ∃ c m, l = c :: m ∧ hostC c = true := by
  simp only [srvL, Bool.and_eq_true] at h
  cases l with
  | nil => simp [hasC, hostL, onlyL] at h
  | cons a l =>
    refine ⟨a, l, rfl, ?_⟩
    have h2 := h.2
    split at h2
    · simp only [Bool.and_eq_true] at h2
      have h3 := h2.1
      unfold pre at h3
      rw [List.takeWhile_cons] at h3
      split at h3
      · simp [hostL, onlyL] at h3
        exact h3.1
      · simp [hostL, onlyL] at h3
    · simp [hostL, onlyL] at h2
      exact h2.1
theorem head_one {g : UInt8} {l : List UInt8} (h : [g].isPrefixOf l = true) : ∃ m, l = g :: m := by
  cases l with
  | nil => simp [List.isPrefixOf] at h
  | cons a l =>
    simp [List.isPrefixOf] at h
    exact ⟨l, by rw [h]⟩
theorem heads_two {g k : UInt8} (hne : g ≠ k) {l : List UInt8} (h : [g].isPrefixOf l = true) (h' : [k].isPrefixOf l = true) : False := by
  obtain ⟨m, rfl⟩ := head_one h
  obtain ⟨m', e⟩ := head_one h'
  exact hne (List.cons.inj e).1
theorem head_srv {g : UInt8} (hg : hostC g = false) {l : List UInt8} (h : [g].isPrefixOf l = true) (h' : srvL l = true) : False := by
  obtain ⟨m, rfl⟩ := head_one h
  obtain ⟨c, m', e, hc⟩ := srv_head h'
  rw [← (List.cons.inj e).1, hg] at hc
  cases hc
/-- The five ways. -/
theorem kinds_ways (l : List UInt8) :
    (userL l = true ∧ roomL l = false ∧ evL l = false ∧ srvL l = false) ∨ (userL l = false ∧ roomL l = true ∧ evL l = false ∧ srvL l = false) ∨
    (userL l = false ∧ roomL l = false ∧ evL l = true ∧ srvL l = false) ∨ (userL l = false ∧ roomL l = false ∧ evL l = false ∧ srvL l = true) ∨
    (userL l = false ∧ roomL l = false ∧ evL l = false ∧ srvL l = false) := by
  have n : ∀ {a : Bool}, (a = true → False) → a = false := fun {a} h => by cases a with | false => rfl | true => exact (h rfl).elim
  by_cases hu : userL l = true
  · have h := on_head hu
    exact .inl ⟨hu, n fun h' => heads_two (by decide) h (on_head h'), n fun h' => heads_two (by decide) h (ev_head h'), n fun h' => head_srv (by decide +kernel) h h'⟩
  · have hu := n hu
    by_cases hr : roomL l = true
    · have h := on_head hr
      exact .inr (.inl ⟨hu, hr, n fun h' => heads_two (by decide) h (ev_head h'), n fun h' => head_srv (by decide +kernel) h h'⟩)
    · have hr := n hr
      by_cases he : evL l = true
      · exact .inr (.inr (.inl ⟨hu, hr, he, n fun h' => head_srv (by decide +kernel) (ev_head he) h'⟩))
      · have he := n he
        cases hs : srvL l with
        | true => exact .inr (.inr (.inr (.inl ⟨hu, hr, he, rfl⟩)))
        | false => exact .inr (.inr (.inr (.inr ⟨hu, hr, he, rfl⟩)))

theorem only_app {p : UInt8 → Bool} (a b : List UInt8) (ha : onlyL p a = true) : onlyL p (a ++ b) = b.all p := by
  simp only [onlyL, Bool.and_eq_true] at ha
  simp only [onlyL, List.all_append, ha.1, Bool.true_and]
  cases a with
  | nil => simp at ha
  | cons x a => simp
end Go.Proofs.Ytemomaeecelofaa
