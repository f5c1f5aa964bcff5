/- Texts of this proof laid together: MtD, MtE. -/
import Derived.Test.YtdhoimjkgicneacDoorLot6
/- Unlike memories have unlike texts; how long a text is; its words hold no space. Of no one program. -/
namespace Go.Proofs.YtdhoimjkgicneacDoor
open Go

/-- Digits ahead of what does not begin with one. -/
theorem split_dig : ∀ {a b r r' : List UInt8}, a.all isDig = true → b.all isDig = true → (∀ c cs, r = c :: cs → isDig c = false) → (∀ c cs, r' = c :: cs → isDig c = false) → a ++ r = b ++ r' → a = b ∧ r = r'
  | [], [], r, r', _, _, _, _, h => ⟨rfl, h⟩
  | [], y :: b, r, r', _, hb, hr, _, h => by
    simp only [List.all_cons, Bool.and_eq_true] at hb
    have := hr y (b ++ r') (by simpa using h)
    rw [hb.1] at this; cases this
  | x :: a, [], r, r', ha, _, _, hr, h => by
    simp only [List.all_cons, Bool.and_eq_true] at ha
    have := hr x (a ++ r) (by simpa using h.symm)
    rw [ha.1] at this; cases this
  | x :: a, y :: b, r, r', ha, hb, hr, hr', h => by
    simp only [List.cons_append, List.cons.injEq] at h
    simp only [List.all_cons, Bool.and_eq_true] at ha hb
    obtain ⟨e1, e2⟩ := split_dig ha.2 hb.2 hr hr' h.2
    exact ⟨by rw [h.1, e1], e2⟩

theorem dd_split {n m : Nat} {r r' : List UInt8} (hr : ∀ c cs, r = c :: cs → isDig c = false) (hr' : ∀ c cs, r' = c :: cs → isDig c = false) (h : Lib.decDigits n ++ r = Lib.decDigits m ++ r') : n = m ∧ r = r' := by
  obtain ⟨e1, e2⟩ := split_dig (dd_all n) (dd_all m) hr hr' h
  exact ⟨dd_inj e1, e2⟩

theorem marks_head (d l : Bool) : ∀ c cs, markL d 33 ++ markL l 43 = c :: cs → isDig c = false := by
  intro c cs h
  cases d <;> cases l <;> simp [markL] at h <;> obtain ⟨rfl, -⟩ := h <;> decide
theorem marks_inj {d l d' l' : Bool} (h : markL d 33 ++ markL l 43 = markL d' 33 ++ markL l' 43) : d = d' ∧ l = l' := by
  cases d <;> cases l <;> cases d' <;> cases l' <;> first | exact ⟨rfl, rfl⟩ | (revert h; decide)
theorem count_inj {c c' : Nat} {d l d' l' : Bool} (h : countL c d l = countL c' d' l') : c = c' ∧ d = d' ∧ l = l' := by
  obtain ⟨e1, e2⟩ := dd_split (marks_head d l) (marks_head d' l') h
  exact ⟨e1, marks_inj e2⟩
theorem tail_head (w : Wd) : ∀ c cs, w.tail = c :: cs → isDig c = false := by
  intro c cs h
  unfold Wd.tail at h
  split at h
  · cases h
  split at h
  · obtain ⟨rfl, -⟩ := List.cons.inj h; decide
  split at h
  · obtain ⟨rfl, -⟩ := List.cons.inj h; decide
  · obtain ⟨rfl, -⟩ := List.cons.inj h; decide

/-- The first sign of a word. -/
def headC (k : Nat) : UInt8 :=
  if k = 1 then 88 else if k = 2 then 89 else if k = 3 then 77 else if k = 4 then 83 else if k = 5 then 69 else if k = 7 then 84 else if k = 8 then 67 else if k = 9 then 68 else if k = 10 then 82
  else if k = 11 then 116 else if k = 12 then 114 else 102

def restC (w : Wd) : List UInt8 :=
  if w.k = 11 then [105, 109, 101, 61] ++ Lib.decDigits w.c else if w.k = 12 then [97, 110] else if w.k = 13 then [97, 117, 108, 116] else Lib.decDigits w.n ++ w.tail

def Kind (k : Nat) : Prop := k = 1 ∨ k = 2 ∨ k = 3 ∨ k = 4 ∨ k = 5 ∨ k = 7 ∨ k = 8 ∨ k = 9 ∨ k = 10 ∨ k = 11 ∨ k = 12 ∨ k = 13

theorem text_cons {w : Wd} (h : Kind w.k) : w.text = headC w.k :: restC w := by
  unfold Wd.text restC headC
  rcases h with e | e | e | e | e | e | e | e | e | e | e | e <;> rw [e] <;> rfl

theorem head_inj {k j : Nat} (h : Kind k) (g : Kind j) (e : headC k = headC j) : k = j := by
  rcases h with rfl | rfl | rfl | rfl | rfl | rfl | rfl | rfl | rfl | rfl | rfl | rfl <;> rcases g with rfl | rfl | rfl | rfl | rfl | rfl | rfl | rfl | rfl | rfl | rfl | rfl <;> first | rfl | (revert e; decide)

theorem wd_inj {v v' : MemV} {tx tx' : Nat → List UInt8} {w w' : Wd} (h : WdOf v tx w) (g : WdOf v' tx' w') (e : w.text = w'.text) : w = w' := by
  rw [text_cons h.kind, text_cons g.kind] at e
  obtain ⟨e1, e2⟩ := List.cons.inj e
  have hk := head_inj h.kind g.kind e1
  have H := h.kind
  clear e e1
  obtain ⟨k, n, c, d, l, z, t⟩ := w
  obtain ⟨k', n', c', d', l', z', t'⟩ := w'
  simp only at hk H
  subst hk
  by_cases h11 : k = 11
  · subst h11
    obtain ⟨-, rfl, rfl, rfl, rfl, rfl⟩ := h.time rfl
    obtain ⟨-, rfl, rfl, rfl, rfl, rfl⟩ := g.time rfl
    have e3 : ([105, 109, 101, 61] : List UInt8) ++ Lib.decDigits c = [105, 109, 101, 61] ++ Lib.decDigits c' := e2
    rw [dd_inj (List.append_cancel_left e3)]
  by_cases h12 : k = 12
  · subst h12
    rw [(h.ran rfl).2, (g.ran rfl).2]
  by_cases h13 : k = 13
  · subst h13
    rw [(h.fault rfl).2, (g.fault rfl).2]
  simp only [restC, if_neg h11, if_neg h12, if_neg h13] at e2
  obtain ⟨rfl, e3⟩ := dd_split (tail_head _) (tail_head _) e2
  by_cases h5 : k ≤ 5
  · obtain ⟨-, -, rfl, rfl, rfl, rfl, rfl⟩ := h.bit h5
    obtain ⟨-, -, rfl, rfl, rfl, rfl, rfl⟩ := g.bit h5
    rfl
  by_cases h7 : k = 7
  · subst h7
    obtain ⟨-, -, -, -, rfl, rfl⟩ := h.timer rfl
    obtain ⟨-, -, -, -, rfl, rfl⟩ := g.timer rfl
    obtain ⟨rfl, rfl, rfl⟩ := count_inj (List.cons.inj e3).2
    rfl
  by_cases h8 : k = 8
  · subst h8
    obtain ⟨-, -, -, -, rfl, rfl⟩ := h.counter rfl
    obtain ⟨-, -, -, -, rfl, rfl⟩ := g.counter rfl
    obtain ⟨rfl, rfl, rfl⟩ := count_inj (List.cons.inj e3).2
    rfl
  by_cases h9 : k = 9
  · subst h9
    obtain ⟨-, -, rfl, rfl, rfl, rfl⟩ := h.int rfl
    obtain ⟨-, -, rfl, rfl, rfl, rfl⟩ := g.int rfl
    have e4 : z = z' := itoa_inj (List.cons.inj e3).2
    rw [e4]
  have h10 : k = 10 := by omega
  subst h10
  obtain ⟨-, -, rfl, rfl, rfl, rfl⟩ := h.real rfl
  obtain ⟨-, -, rfl, rfl, rfl, rfl⟩ := g.real rfl
  have e4 : t = t' := (List.cons.inj e3).2
  rw [e4]

/-- No space stands in a word. -/
theorem dig_ns {l : List UInt8} (h : l.all isDig = true) : (32 : UInt8) ∉ l := by
  intro hm
  have := List.all_eq_true.1 h 32 hm
  revert this; decide
theorem dd_ns (n : Nat) : (32 : UInt8) ∉ Lib.decDigits n := dig_ns (dd_all n)
theorem itoa_ns (z : Int) : (32 : UInt8) ∉ Lib.itoa z := by
  unfold Lib.itoa
  split
  · simp [dd_ns]
  · exact dd_ns _
theorem sgn_ns (s : Bool) : (32 : UInt8) ∉ sgnL s := by cases s <;> decide
theorem txt_ns {x : Nat} {l : List UInt8} (h : Txt x l) : (32 : UInt8) ∉ l := by
  rcases h with ⟨-, rfl⟩ | ⟨s, -, rfl⟩ | ⟨s, k, -, rfl⟩ | ⟨s, m, k, n, c, -, -, -, -, rfl⟩
  · decide
  · simp [sgn_ns]
  · simp [sgn_ns]
  · simp [finL, sgn_ns, dd_ns, itoa_ns]
theorem count_ns (c : Nat) (d l : Bool) : (32 : UInt8) ∉ countL c d l := by
  unfold countL
  cases d <;> cases l <;> simp [markL, dd_ns]

theorem word_ns {v : MemV} {tx : Nat → List UInt8} {w : Wd} (ht : ∀ i, i < 16 → Txt (v.r i) (tx i)) (h : WdOf v tx w) : (32 : UInt8) ∉ w.text := by
  unfold Wd.text
  split
  · simp [dd_ns]
  split
  · decide
  split
  · decide
  have hl : (32 : UInt8) ∉ letterL w.k := by
    rcases h.kind with e | e | e | e | e | e | e | e | e | e | e | e <;> rw [e] <;> decide
  have ht : (32 : UInt8) ∉ w.tail := by
    unfold Wd.tail
    split
    · simp
    split
    · simp [count_ns]
    split
    · simp [itoa_ns]
    · have hk : w.k = 10 := by have := h.kind; omega
      obtain ⟨h1, h2, -⟩ := h.real hk
      rw [h2]
      simp [txt_ns (ht _ h1)]
  simp [hl, dd_ns, ht]
theorem word_ne {w : Wd} (h : Kind w.k) : w.text ≠ [] := by rw [text_cons h]; simp

/-- Words without spaces, joined by spaces, are the words. -/
theorem split_sp : ∀ {a b r r' : List UInt8}, (32 : UInt8) ∉ a → (32 : UInt8) ∉ b → a ++ 32 :: r = b ++ 32 :: r' → a = b ∧ r = r'
  | [], [], r, r', _, _, h => by simpa using h
  | [], y :: b, r, r', _, hb, h => by
    simp at h
    exact absurd (by rw [h.1]; simp) hb
  | x :: a, [], r, r', ha, _, h => by
    simp at h
    exact absurd (by rw [h.1]; simp) ha
  | x :: a, y :: b, r, r', ha, hb, h => by
    simp only [List.cons_append, List.cons.injEq] at h
    obtain ⟨e1, e2⟩ := split_sp (fun g => ha (by simp [g])) (fun g => hb (by simp [g])) h.2
    exact ⟨by rw [h.1, e1], e2⟩
theorem tail_cons (y : List UInt8) (r : List (List UInt8)) : Lib.joinTail [32] (y :: r) = 32 :: (y ++ Lib.joinTail [32] r) := by simp [Lib.joinTail]
theorem ns_of {a r : List UInt8} (h : a = r) (hr : (32 : UInt8) ∈ r) (ha : (32 : UInt8) ∉ a) : False := ha (h ▸ hr)
theorem join_inj : ∀ {a b : List (List UInt8)}, (∀ x ∈ a, (32 : UInt8) ∉ x ∧ x ≠ []) → (∀ x ∈ b, (32 : UInt8) ∉ x ∧ x ≠ []) → Lib.join a [32] = Lib.join b [32] → a = b
  | [], [], _, _, _ => rfl
  | [], y :: b, _, hb, h => by
    rw [Lib.join_nil, Lib.join_cons] at h
    have := (hb y (by simp)).2
    simp at h
    exact absurd h.1 this
  | x :: a, [], ha, _, h => by
    rw [Lib.join_nil, Lib.join_cons] at h
    have := (ha x (by simp)).2
    simp at h
    exact absurd h.1 this
  | x :: a, y :: b, ha, hb, h => by
    rw [Lib.join_cons, Lib.join_cons] at h
    have hx := (ha x (by simp)).1
    have hy := (hb y (by simp)).1
    cases a with
    | nil =>
      cases b with
      | nil => simpa [Lib.joinTail] using h
      | cons y2 b =>
        exfalso
        rw [tail_cons] at h
        simp only [Lib.joinTail, List.map_nil, List.flatten_nil, List.append_nil] at h
        exact ns_of h (by simp) hx
    | cons x2 a =>
      cases b with
      | nil =>
        exfalso
        rw [tail_cons] at h
        simp only [Lib.joinTail, List.map_nil, List.flatten_nil, List.append_nil] at h
        exact ns_of h.symm (by simp) hy
      | cons y2 b =>
        rw [tail_cons, tail_cons] at h
        obtain ⟨rfl, e⟩ := split_sp hx hy h
        have e2 : Lib.join (x2 :: a) [32] = Lib.join (y2 :: b) [32] := by rw [Lib.join_cons, Lib.join_cons]; exact e
        rw [join_inj (fun z hz => ha z (by simp at hz ⊢; exact Or.inr hz)) (fun z hz => hb z (by simp at hz ⊢; exact Or.inr hz)) e2]

theorem words_good {v : MemV} {tx : Nat → List UInt8} (ht : ∀ i, i < 16 → Txt (v.r i) (tx i)) : ∀ x ∈ (allW v tx).map Wd.text, (32 : UInt8) ∉ x ∧ x ≠ [] := by
  intro x hx
  obtain ⟨w, hw, rfl⟩ := List.mem_map.1 hx
  exact ⟨word_ns ht (of_all hw), word_ne (of_all hw).kind⟩

theorem map_inj : ∀ {a b : List Wd}, (∀ w ∈ a, ∀ w' ∈ b, w.text = w'.text → w = w') → a.map Wd.text = b.map Wd.text → a = b
  | [], [], _, _ => rfl
  | [], _ :: _, _, h => by cases h
  | _ :: _, [], _, h => by cases h
  | w :: a, w' :: b, g, h => by
    simp only [List.map_cons, List.cons.injEq] at h
    rw [g w (by simp) w' (by simp) h.1, map_inj (fun x hx y hy => g x (by simp [hx]) y (by simp [hy])) h.2]

theorem words_inj {a b : MemV} {tx ty : Nat → List UInt8} (ha : ∀ i, i < 16 → Txt (a.r i) (tx i)) (hb : ∀ i, i < 16 → Txt (b.r i) (ty i)) (h : textV a tx = textV b ty) : allW a tx = allW b ty :=
  map_inj (fun _ hw _ hw' e => wd_inj (of_all hw) (of_all hw') e) (join_inj (words_good ha) (words_good hb) h)

/-- Steps can be taken. -/
theorem steps_ex : ∀ (L : List Wd) (m : MemV), (∀ w ∈ L, w.k = 10 → ∃ x, Txt x w.t) → ∃ m', Steps m L m'
  | [], m, _ => ⟨m, rfl⟩
  | w :: L, m, h => by
    have : ∃ m1, Step m w m1 := by
      unfold Step
      repeat' split
      all_goals first | exact ⟨_, rfl⟩ | skip
      obtain ⟨x, hx⟩ := h w (by simp) (by assumption)
      exact ⟨_, x, hx, rfl⟩
    obtain ⟨m1, h1⟩ := this
    obtain ⟨m2, h2⟩ := steps_ex L m1 (fun w hw => h w (by simp [hw]))
    exact ⟨m2, m1, h1, h2⟩

theorem sameM_symm {a b : MemV} (h : SameM a b) : SameM b a := by
  have ss : ∀ {x y : Nat}, Same x y → Same y x := by
    intro x y h
    rcases h with ⟨a, b⟩ | ⟨s, a, b⟩ | ⟨s, m, k, m', k', a, b, e⟩
    · exact Or.inl ⟨b, a⟩
    · exact Or.inr (Or.inl ⟨s, b, a⟩)
    · exact Or.inr (Or.inr ⟨s, m', k', m, k, b, a, e.symm⟩)
  exact ⟨h.x.symm, h.y.symm, h.m.symm, h.s.symm, h.e.symm, fun i hi => (h.tD i hi).symm, fun i hi => (h.tC i hi).symm, fun i hi => (h.cD i hi).symm, fun i hi => (h.cL i hi).symm, fun i hi => (h.cC i hi).symm, fun i hi => (h.d i hi).symm, fun i hi => ss (h.r i hi), h.time.symm, h.ran.symm, h.fault.symm⟩
/-- Every word has a text. -/
theorem txt_ex (x : Nat) : ∃ l, Txt x l := by
  rcases read_cases x with ⟨s, m, k, h⟩ | ⟨s, h⟩ | h
  · by_cases h0 : m = 0
    · subst h0; exact ⟨_, Or.inr (Or.inr (Or.inl ⟨s, k, h, rfl⟩))⟩
    · have key : ∀ (j m k : Nat), m ≤ j → m ≠ 0 → ∃ n c, n % 2 = 1 ∧ m * 2 ^ k = n * 2 ^ c := by
        intro j
        induction j with
        | zero => intro m k h1 h2; omega
        | succ j ih =>
          intro m k h1 h2
          by_cases ho : m % 2 = 1
          · exact ⟨m, k, ho, rfl⟩
          · obtain ⟨n, c, e1, e2⟩ := ih (m / 2) (k + 1) (by omega) (by omega)
            refine ⟨n, c, e1, ?_⟩
            rw [← e2, Nat.pow_succ, Nat.mul_comm (2 ^ k) 2, ← Nat.mul_assoc, show m / 2 * 2 = m by omega]
      obtain ⟨n, c, e1, e2⟩ := key m m k (Nat.le_refl _) h0
      exact ⟨_, Or.inr (Or.inr (Or.inr ⟨s, m, k, n, c, h, h0, e1, e2, rfl⟩))⟩
  · exact ⟨_, Or.inr (Or.inl ⟨s, h, rfl⟩)⟩
  · exact ⟨_, Or.inl ⟨h, rfl⟩⟩
theorem txts_ex (r : Nat → Nat) : ∃ tx : Nat → List UInt8, ∀ i, Txt (r i) (tx i) := ⟨fun i => Classical.choose (txt_ex (r i)), fun i => Classical.choose_spec (txt_ex (r i))⟩
theorem text_ex (v : MemV) : ∃ l, TextOf v l := by
  obtain ⟨tx, h⟩ := txts_ex v.r
  exact ⟨_, tx, fun i _ => h i, rfl⟩
theorem sameM_trans {a b c : MemV} (h : SameM a b) (g : SameM b c) : SameM a c := by
  have tt : ∀ {x y z : Nat}, Same x y → Same y z → Same x z := by
    intro x y z h g
    obtain ⟨l, hl⟩ := txt_ex x
    exact txt_same hl (by
      have h2 := txt_of_same g (txt_of_same h hl)
      exact h2)
  exact ⟨h.x.trans g.x, h.y.trans g.y, h.m.trans g.m, h.s.trans g.s, h.e.trans g.e, fun i hi => (h.tD i hi).trans (g.tD i hi), fun i hi => (h.tC i hi).trans (g.tC i hi), fun i hi => (h.cD i hi).trans (g.cD i hi), fun i hi => (h.cL i hi).trans (g.cL i hi), fun i hi => (h.cC i hi).trans (g.cC i hi), fun i hi => (h.d i hi).trans (g.d i hi), fun i hi => tt (h.r i hi) (g.r i hi), h.time.trans g.time, h.ran.trans g.ran, h.fault.trans g.fault⟩

/-- Unlike memories have unlike texts. -/
theorem text_inj {a b : MemV} {l : List UInt8} (ha : a.Ok) (hb : b.Ok) (h : TextOf a l) (g : TextOf b l) : SameM a b := by
  obtain ⟨tx, hx, rfl⟩ := h
  obtain ⟨ty, hy, e⟩ := g
  have ew := words_inj hx hy e
  obtain ⟨m, hm⟩ := steps_ex (allW a tx) memZ (fun w hw hk => by
    obtain ⟨h1, h2, -⟩ := (of_all hw).real hk
    exact ⟨_, h2 ▸ hx _ h1⟩)
  have s1 := back ha hx hm
  rw [ew] at hm
  exact sameM_trans (sameM_symm s1) (back hb hy hm)

end Go.Proofs.YtdhoimjkgicneacDoor

/- How long the text of a memory is, and the text as the specification builds it: each word with a space behind it, the last space taken off. Of no one program. -/
namespace Go.Proofs.YtdhoimjkgicneacDoor
open Go

/-- Each word with a space behind it. -/
def spL (L : List Wd) : List UInt8 := (L.map fun w => w.text ++ [32]).flatten

theorem spL_append (a b : List Wd) : spL (a ++ b) = spL a ++ spL b := by simp [spL]
theorem spL_nil : spL [] = [] := rfl
theorem spL_one (w : Wd) : spL [w] = w.text ++ [32] := by simp [spL]

theorem spL_join : ∀ (L : List Wd), L ≠ [] → spL L = Lib.join (L.map Wd.text) [32] ++ [32]
  | [], h => absurd rfl h
  | [w], _ => by simp [spL, Lib.join_one]
  | w :: w' :: L, _ => by
    have ih := spL_join (w' :: L) (by simp)
    have : spL (w :: w' :: L) = w.text ++ [32] ++ spL (w' :: L) := by simp [spL]
    rw [this, ih]
    simp only [List.map_cons, Lib.join_cons, tail_cons]
    simp
theorem spL_text (L : List Wd) : (spL L).take ((spL L).length - 1) = Lib.join (L.map Wd.text) [32] := by
  by_cases h : L = []
  · subst h; rfl
  · rw [spL_join L h]
    simp
theorem spL_eq_nil {L : List Wd} : spL L = [] ↔ L = [] := by
  constructor
  · intro h
    cases L with
    | nil => rfl
    | cons w L => simp [spL] at h
  · rintro rfl; rfl

theorem seg_len {n b : Nat} {p : Nat → Bool} {f : Nat → Wd} (h : ∀ i, i < n → (f i).text.length ≤ b) : (spL (((List.range n).filter p).map f)).length ≤ n * (b + 1) := by
  induction n with
  | zero => simp [spL]
  | succ n ih =>
    have := ih (fun i hi => h i (by omega))
    rw [List.range_succ, List.filter_append, List.map_append, spL_append, List.length_append]
    have h2 : (spL ((List.filter p [n]).map f)).length ≤ b + 1 := by
      cases hp : p n with
      | true =>
        have := h n (by omega)
        simp [hp, spL_one]
        exact this
      | false => simp [hp, spL_nil]
    rw [Nat.add_mul, Nat.one_mul]
    omega

theorem dd_len2 {n : Nat} (h : n < 100) : (Lib.decDigits n).length ≤ 2 := dd_len 1 n (by omega)
theorem dd_len5 {n : Nat} (h : n < 65536) : (Lib.decDigits n).length ≤ 5 := dd_len 4 n (by omega)
theorem dd_len10 {n : Nat} (h : n < 4294967296) : (Lib.decDigits n).length ≤ 10 := dd_len 9 n (by omega)
theorem itoa_len6 {z : Int} (h1 : -32768 ≤ z) (h2 : z ≤ 32767) : (Lib.itoa z).length ≤ 6 := by
  unfold Lib.itoa
  split
  · have := dd_len5 (n := z.natAbs) (by omega)
    simp; omega
  · have := dd_len5 (n := z.toNat) (by omega)
    omega
theorem mark_len (b : Bool) (c : UInt8) : (markL b c).length ≤ 1 := by cases b <;> simp [markL]
theorem count_len {c : Nat} (d l : Bool) (h : c < 65536) : (countL c d l).length ≤ 7 := by
  have := dd_len5 h
  have h1 := mark_len d 33
  have h2 := mark_len l 43
  simp [countL]
  omega

section
variable {v : MemV} {tx : Nat → List UInt8}
theorem bit_len (k : Nat) : (spL (bitW v k)).length ≤ szN k * 4 := by
  unfold bitW
  have hs : szN k ≤ 64 ∧ (szN k ≠ 0 → k ≤ 5) := by
    unfold szN
    repeat' split
    all_goals omega
  refine seg_len (b := 3) fun i hi => ?_
  have h1 := dd_len2 (n := i) (by omega)
  have h2 := letterL_len (k : Int)
  have hk : k ≤ 5 := hs.2 (by omega)
  simp only [Wd.text, Wd.tail, if_neg (show ¬ k = 11 by omega), if_neg (show ¬ k = 12 by omega), if_neg (show ¬ k = 13 by omega), if_pos hk]
  simp
  omega
theorem timer_len (hv : v.Ok) : (spL (timerW v)).length ≤ 16 * 12 := by
  refine seg_len (b := 11) fun i hi => ?_
  have h1 := dd_len2 (n := i) (by omega)
  have h3 := count_len (v.tD i) false (hv.tC i)
  show (letterL ((7 : Nat) : Int) ++ (Lib.decDigits i ++ 61 :: countL (v.tC i) (v.tD i) false)).length ≤ 11
  have h2 := letterL_len ((7 : Nat) : Int)
  simp only [List.length_append, List.length_cons]
  omega
theorem counter_len (hv : v.Ok) : (spL (counterW v)).length ≤ 16 * 12 := by
  refine seg_len (b := 11) fun i hi => ?_
  have h1 := dd_len2 (n := i) (by omega)
  have h3 := count_len (v.cD i) (v.cL i) (hv.cC i)
  show (letterL ((8 : Nat) : Int) ++ (Lib.decDigits i ++ 61 :: countL (v.cC i) (v.cD i) (v.cL i))).length ≤ 11
  have h2 := letterL_len ((8 : Nat) : Int)
  simp only [List.length_append, List.length_cons]
  omega
theorem int_len (hv : v.Ok) : (spL (intW v)).length ≤ 32 * 11 := by
  refine seg_len (b := 10) fun i hi => ?_
  have h1 := dd_len2 (n := i) (by omega)
  have h3 := itoa_len6 (hv.d1 i) (hv.d2 i)
  show (letterL ((9 : Nat) : Int) ++ (Lib.decDigits i ++ 61 :: Lib.itoa (v.d i))).length ≤ 10
  have h2 := letterL_len ((9 : Nat) : Int)
  simp only [List.length_append, List.length_cons]
  omega
theorem real_len (ht : ∀ i, i < 16 → (tx i).length ≤ 50) : (spL (realW tx)).length ≤ 16 * 55 := by
  refine seg_len (b := 54) fun i hi => ?_
  have h1 := dd_len2 (n := i) (by omega)
  have h3 := ht i hi
  show (letterL ((10 : Nat) : Int) ++ (Lib.decDigits i ++ 61 :: tx i)).length ≤ 54
  have h2 := letterL_len ((10 : Nat) : Int)
  simp only [List.length_append, List.length_cons]
  omega
theorem time_len (hv : v.Ok) : (spL (timeW v)).length ≤ 16 := by
  unfold timeW
  split
  · rw [spL_one]
    have := dd_len10 hv.time
    show ([116, 105, 109, 101, 61] ++ Lib.decDigits v.time ++ [32]).length ≤ 16
    simp
    omega
  · simp [spL]
theorem ran_len : (spL (ranW v)).length ≤ 4 := by
  unfold ranW
  split
  · rw [spL_one]; decide
  · simp [spL]
theorem fault_len : (spL (faultW v)).length ≤ 6 := by
  unfold faultW
  split
  · rw [spL_one]; decide
  · simp [spL]

theorem bits_len : (spL (bitsW v)).length ≤ 704 := by
  have h1 := bit_len (v := v) 1
  have h2 := bit_len (v := v) 2
  have h3 := bit_len (v := v) 3
  have h4 := bit_len (v := v) 4
  have h5 := bit_len (v := v) 5
  have e1 : szN 1 = 32 := rfl
  have e2 : szN 2 = 32 := rfl
  have e3 : szN 3 = 64 := rfl
  have e4 : szN 4 = 16 := rfl
  have e5 : szN 5 = 32 := rfl
  rw [e1] at h1
  rw [e2] at h2
  rw [e3] at h3
  rw [e4] at h4
  rw [e5] at h5
  simp only [bitsW, spL_append, List.length_append]
  omega

theorem all_len (hv : v.Ok) (ht : ∀ i, i < 16 → (tx i).length ≤ 50) : (spL (allW v tx)).length ≤ 2400 := by
  have h1 := bits_len (v := v)
  have h2 := timer_len hv
  have h3 := counter_len hv
  have h4 := int_len hv
  have h5 := real_len ht
  have h6 := time_len hv
  have h7 := ran_len (v := v)
  have h8 := fault_len (v := v)
  simp only [allW, spL_append, List.length_append]
  omega
theorem textV_len (hv : v.Ok) (ht : ∀ i, i < 16 → (tx i).length ≤ 50) : (textV v tx).length ≤ 2400 := by
  have := all_len hv ht
  unfold textV
  rw [← spL_text, List.length_take]
  omega
end

end Go.Proofs.YtdhoimjkgicneacDoor
