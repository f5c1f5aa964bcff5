/- Texts of this proof laid together: MtD, MrP, MrN. -/
import Derived.Test.YtdhoimjkgicneaaGreatDoorLot11
import Derived.Lib.Split
import Derived.Lib.IndexMore
import Derived.Lib.ParseIntB
import Derived.Lib.Strings
/- Unlike memories have unlike texts; how long a text is; its words hold no space. Of no one program. -/
namespace Go.Proofs.YtdhoimjkgicneaaGreatDoor
open Go

/-- Digits ahead of what does not begin with one. -/
theorem split_dig : ∀ {a b r r' : List UInt8}, a.all isDig = true → b.all isDig = true → (∀ c cs, r = c :: cs → isDig c = false) → (∀ c cs, r' = c :: cs → isDig c = false) → a ++ r = b ++ r' → a = b ∧ r = r'
  | [], [], r, r', _, _, _, _, h => ⟨rfl, h⟩
  | [], y :: b, r, r', _, hb, hr, _, h => by
    simp only [List.all_cons, Bool.and_eq_true] at hb
    have := hr y (b ++ r') (by simpa using h)
    rw [hb.1] at this; cases this
  | x :: a, [], r, r', ha, _, _, hr, h => by
    simp only [List.all_cons, Bool.and_eq_true] at ha
    have := hr x (a ++ r) (by simpa using h.symm)
    rw [ha.1] at this; cases this
  | x :: a, y :: b, r, r', ha, hb, hr, hr', h => by
    simp only [List.cons_append, List.cons.injEq] at h
    simp only [List.all_cons, Bool.and_eq_true] at ha hb
    obtain ⟨e1, e2⟩ := split_dig ha.2 hb.2 hr hr' h.2
    exact ⟨by rw [h.1, e1], e2⟩

theorem dd_split {n m : Nat} {r r' : List UInt8} (hr : ∀ c cs, r = c :: cs → isDig c = false) (hr' : ∀ c cs, r' = c :: cs → isDig c = false) (h : Lib.decDigits n ++ r = Lib.decDigits m ++ r') : n = m ∧ r = r' := by
  obtain ⟨e1, e2⟩ := split_dig (dd_all n) (dd_all m) hr hr' h
  exact ⟨dd_inj e1, e2⟩

theorem marks_head (d l : Bool) : ∀ c cs, markL d 33 ++ markL l 43 = c :: cs → isDig c = false := by
  intro c cs h
  cases d <;> cases l <;> simp [markL] at h <;> obtain ⟨rfl, -⟩ := h <;> decide
theorem marks_inj {d l d' l' : Bool} (h : markL d 33 ++ markL l 43 = markL d' 33 ++ markL l' 43) : d = d' ∧ l = l' := by
  cases d <;> cases l <;> cases d' <;> cases l' <;> first | exact ⟨rfl, rfl⟩ | (revert h; decide)
theorem count_inj {c c' : Nat} {d l d' l' : Bool} (h : countL c d l = countL c' d' l') : c = c' ∧ d = d' ∧ l = l' := by
  obtain ⟨e1, e2⟩ := dd_split (marks_head d l) (marks_head d' l') h
  exact ⟨e1, marks_inj e2⟩
theorem tail_head (w : Wd) : ∀ c cs, w.tail = c :: cs → isDig c = false := by
  intro c cs h
  unfold Wd.tail at h
  split at h
  · cases h
  split at h
  · obtain ⟨rfl, -⟩ := List.cons.inj h; decide
  split at h
  · obtain ⟨rfl, -⟩ := List.cons.inj h; decide
  · obtain ⟨rfl, -⟩ := List.cons.inj h; decide

/-- The first sign of a word. -/
def headC (k : Nat) : UInt8 :=
  if k = 1 then 88 else if k = 2 then 89 else if k = 3 then 77 else if k = 4 then 83 else if k = 5 then 69 else if k = 7 then 84 else if k = 8 then 67 else if k = 9 then 68 else if k = 10 then 82
  else if k = 11 then 116 else if k = 12 then 114 else 102

def restC (w : Wd) : List UInt8 :=
  if w.k = 11 then [105, 109, 101, 61] ++ Lib.decDigits w.c else if w.k = 12 then [97, 110] else if w.k = 13 then [97, 117, 108, 116] else Lib.decDigits w.n ++ w.tail

def Kind (k : Nat) : Prop := k = 1 ∨ k = 2 ∨ k = 3 ∨ k = 4 ∨ k = 5 ∨ k = 7 ∨ k = 8 ∨ k = 9 ∨ k = 10 ∨ k = 11 ∨ k = 12 ∨ k = 13

theorem text_cons {w : Wd} (h : Kind w.k) : w.text = headC w.k :: restC w := by
  unfold Wd.text restC headC
  rcases h with e | e | e | e | e | e | e | e | e | e | e | e <;> rw [e] <;> rfl

theorem head_inj {k j : Nat} (h : Kind k) (g : Kind j) (e : headC k = headC j) : k = j := by
  rcases h with rfl | rfl | rfl | rfl | rfl | rfl | rfl | rfl | rfl | rfl | rfl | rfl <;> rcases g with rfl | rfl | rfl | rfl | rfl | rfl | rfl | rfl | rfl | rfl | rfl | rfl <;> first | rfl | (revert e; decide)

theorem wd_inj {v v' : MemV} {tx tx' : Nat → List UInt8} {w w' : Wd} (h : WdOf v tx w) (g : WdOf v' tx' w') (e : w.text = w'.text) : w = w' := by
  rw [text_cons h.kind, text_cons g.kind] at e
  obtain ⟨e1, e2⟩ := List.cons.inj e
  have hk := head_inj h.kind g.kind e1
  have H := h.kind
  clear e e1
  obtain ⟨k, n, c, d, l, z, t⟩ := w
  obtain ⟨k', n', c', d', l', z', t'⟩ := w'
  simp only at hk H
  subst hk
  by_cases h11 : k = 11
  · subst h11
    obtain ⟨-, rfl, rfl, rfl, rfl, rfl⟩ := h.time rfl
    obtain ⟨-, rfl, rfl, rfl, rfl, rfl⟩ := g.time rfl
    have e3 : ([105, 109, 101, 61] : List UInt8) ++ Lib.decDigits c = [105, 109, 101, 61] ++ Lib.decDigits c' := e2
    rw [dd_inj (List.append_cancel_left e3)]
  by_cases h12 : k = 12
  · subst h12
    rw [(h.ran rfl).2, (g.ran rfl).2]
  by_cases h13 : k = 13
  · subst h13
    rw [(h.fault rfl).2, (g.fault rfl).2]
  simp only [restC, if_neg h11, if_neg h12, if_neg h13] at e2
  obtain ⟨rfl, e3⟩ := dd_split (tail_head _) (tail_head _) e2
  by_cases h5 : k ≤ 5
  · obtain ⟨-, -, rfl, rfl, rfl, rfl, rfl⟩ := h.bit h5
    obtain ⟨-, -, rfl, rfl, rfl, rfl, rfl⟩ := g.bit h5
    rfl
  by_cases h7 : k = 7
  · subst h7
    obtain ⟨-, -, -, -, rfl, rfl⟩ := h.timer rfl
    obtain ⟨-, -, -, -, rfl, rfl⟩ := g.timer rfl
    obtain ⟨rfl, rfl, rfl⟩ := count_inj (List.cons.inj e3).2
    rfl
  by_cases h8 : k = 8
  · subst h8
    obtain ⟨-, -, -, -, rfl, rfl⟩ := h.counter rfl
    obtain ⟨-, -, -, -, rfl, rfl⟩ := g.counter rfl
    obtain ⟨rfl, rfl, rfl⟩ := count_inj (List.cons.inj e3).2
    rfl
  by_cases h9 : k = 9
  · subst h9
    obtain ⟨-, -, rfl, rfl, rfl, rfl⟩ := h.int rfl
    obtain ⟨-, -, rfl, rfl, rfl, rfl⟩ := g.int rfl
    have e4 : z = z' := itoa_inj (List.cons.inj e3).2
    rw [e4]
  have h10 : k = 10 := by omega
  subst h10
  obtain ⟨-, -, rfl, rfl, rfl, rfl⟩ := h.real rfl
  obtain ⟨-, -, rfl, rfl, rfl, rfl⟩ := g.real rfl
  have e4 : t = t' := (List.cons.inj e3).2
  rw [e4]

/-- No space stands in a word. -/
theorem dig_ns {l : List UInt8} (h : l.all isDig = true) : (32 : UInt8) ∉ l := by
  intro hm
  have := List.all_eq_true.1 h 32 hm
  revert this; decide
theorem dd_ns (n : Nat) : (32 : UInt8) ∉ Lib.decDigits n := dig_ns (dd_all n)
theorem itoa_ns (z : Int) : (32 : UInt8) ∉ Lib.itoa z := by
  unfold Lib.itoa
  split
  · simp [dd_ns]
  · exact dd_ns _
theorem sgn_ns (s : Bool) : (32 : UInt8) ∉ sgnL s := by cases s <;> decide
theorem txt_ns {x : Nat} {l : List UInt8} (h : Txt x l) : (32 : UInt8) ∉ l := by
  rcases h with ⟨-, rfl⟩ | ⟨s, -, rfl⟩ | ⟨s, k, -, rfl⟩ | ⟨s, m, k, n, c, -, -, -, -, rfl⟩
  · decide
  · simp [sgn_ns]
  · simp [sgn_ns]
  · simp [finL, sgn_ns, dd_ns, itoa_ns]
theorem count_ns (c : Nat) (d l : Bool) : (32 : UInt8) ∉ countL c d l := by
  unfold countL
  cases d <;> cases l <;> simp [markL, dd_ns]

theorem word_ns {v : MemV} {tx : Nat → List UInt8} {w : Wd} (ht : ∀ i, i < 16 → Txt (v.r i) (tx i)) (h : WdOf v tx w) : (32 : UInt8) ∉ w.text := by
  unfold Wd.text
  split
  · simp [dd_ns]
  split
  · decide
  split
  · decide
  have hl : (32 : UInt8) ∉ letterL w.k := by
    rcases h.kind with e | e | e | e | e | e | e | e | e | e | e | e <;> rw [e] <;> decide
  have ht : (32 : UInt8) ∉ w.tail := by
    unfold Wd.tail
    split
    · simp
    split
    · simp [count_ns]
    split
    · simp [itoa_ns]
    · have hk : w.k = 10 := by have := h.kind; omega
      obtain ⟨h1, h2, -⟩ := h.real hk
      rw [h2]
      simp [txt_ns (ht _ h1)]
  simp [hl, dd_ns, ht]
theorem word_ne {w : Wd} (h : Kind w.k) : w.text ≠ [] := by rw [text_cons h]; simp

/-- Words without spaces, joined by spaces, are the words. -/
theorem split_sp : ∀ {a b r r' : List UInt8}, (32 : UInt8) ∉ a → (32 : UInt8) ∉ b → a ++ 32 :: r = b ++ 32 :: r' → a = b ∧ r = r'
  | [], [], r, r', _, _, h => by simpa using h
  | [], y :: b, r, r', _, hb, h => by
    simp at h
    exact absurd (by rw [h.1]; simp) hb
  | x :: a, [], r, r', ha, _, h => by
    simp at h
    exact absurd (by rw [h.1]; simp) ha
  | x :: a, y :: b, r, r', ha, hb, h => by
    simp only [List.cons_append, List.cons.injEq] at h
    obtain ⟨e1, e2⟩ := split_sp (fun g => ha (by simp [g])) (fun g => hb (by simp [g])) h.2
    exact ⟨by rw [h.1, e1], e2⟩
theorem tail_cons (y : List UInt8) (r : List (List UInt8)) : Lib.joinTail [32] (y :: r) = 32 :: (y ++ Lib.joinTail [32] r) := by simp [Lib.joinTail]
theorem ns_of {a r : List UInt8} (h : a = r) (hr : (32 : UInt8) ∈ r) (ha : (32 : UInt8) ∉ a) : False := ha (h ▸ hr)
theorem join_inj : ∀ {a b : List (List UInt8)}, (∀ x ∈ a, (32 : UInt8) ∉ x ∧ x ≠ []) → (∀ x ∈ b, (32 : UInt8) ∉ x ∧ x ≠ []) → Lib.join a [32] = Lib.join b [32] → a = b
  | [], [], _, _, _ => rfl
  | [], y :: b, _, hb, h => by
    rw [Lib.join_nil, Lib.join_cons] at h
    have := (hb y (by simp)).2
    simp at h
    exact absurd h.1 this
  | x :: a, [], ha, _, h => by
    rw [Lib.join_nil, Lib.join_cons] at h
    have := (ha x (by simp)).2
    simp at h
    exact absurd h.1 this
  | x :: a, y :: b, ha, hb, h => by
    rw [Lib.join_cons, Lib.join_cons] at h
    have hx := (ha x (by simp)).1
    have hy := (hb y (by simp)).1
    cases a with
    | nil =>
      cases b with
      | nil => simpa [Lib.joinTail] using h
      | cons y2 b =>
        exfalso
        rw [tail_cons] at h
        simp only [Lib.joinTail, List.map_nil, List.flatten_nil, List.append_nil] at h
        exact ns_of h (by simp) hx
    | cons x2 a =>
      cases b with
      | nil =>
        exfalso
        rw [tail_cons] at h
        simp only [Lib.joinTail, List.map_nil, List.flatten_nil, List.append_nil] at h
        exact ns_of h.symm (by simp) hy
      | cons y2 b =>
        rw [tail_cons, tail_cons] at h
        obtain ⟨rfl, e⟩ := split_sp hx hy h
        have e2 : Lib.join (x2 :: a) [32] = Lib.join (y2 :: b) [32] := by rw [Lib.join_cons, Lib.join_cons]; exact e
        rw [join_inj (fun z hz => ha z (by simp at hz ⊢; exact Or.inr hz)) (fun z hz => hb z (by simp at hz ⊢; exact Or.inr hz)) e2]

theorem words_good {v : MemV} {tx : Nat → List UInt8} (ht : ∀ i, i < 16 → Txt (v.r i) (tx i)) : ∀ x ∈ (allW v tx).map Wd.text, (32 : UInt8) ∉ x ∧ x ≠ [] := by
  intro x hx
  obtain ⟨w, hw, rfl⟩ := List.mem_map.1 hx
  exact ⟨word_ns ht (of_all hw), word_ne (of_all hw).kind⟩

theorem map_inj : ∀ {a b : List Wd}, (∀ w ∈ a, ∀ w' ∈ b, w.text = w'.text → w = w') → a.map Wd.text = b.map Wd.text → a = b
  | [], [], _, _ => rfl
  | [], _ :: _, _, h => by cases h
  | _ :: _, [], _, h => by cases h
  | w :: a, w' :: b, g, h => by
    simp only [List.map_cons, List.cons.injEq] at h
    rw [g w (by simp) w' (by simp) h.1, map_inj (fun x hx y hy => g x (by simp [hx]) y (by simp [hy])) h.2]

theorem words_inj {a b : MemV} {tx ty : Nat → List UInt8} (ha : ∀ i, i < 16 → Txt (a.r i) (tx i)) (hb : ∀ i, i < 16 → Txt (b.r i) (ty i)) (h : textV a tx = textV b ty) : allW a tx = allW b ty :=
  map_inj (fun _ hw _ hw' e => wd_inj (of_all hw) (of_all hw') e) (join_inj (words_good ha) (words_good hb) h)

/-- Steps can be taken. -/
theorem steps_ex : ∀ (L : List Wd) (m : MemV), (∀ w ∈ L, w.k = 10 → ∃ x, Txt x w.t) → ∃ m', Steps m L m'
  | [], m, _ => ⟨m, rfl⟩
  | w :: L, m, h => by
    have : ∃ m1, Step m w m1 := by
      unfold Step
      repeat' split
      all_goals first | exact ⟨_, rfl⟩ | skip
      obtain ⟨x, hx⟩ := h w (by simp) (by assumption)
      exact ⟨_, x, hx, rfl⟩
    obtain ⟨m1, h1⟩ := this
    obtain ⟨m2, h2⟩ := steps_ex L m1 (fun w hw => h w (by simp [hw]))
    exact ⟨m2, m1, h1, h2⟩

theorem sameM_symm {a b : MemV} (h : SameM a b) : SameM b a := by
  have ss : ∀ {x y : Nat}, Same x y → Same y x := by
    intro x y h
    rcases h with ⟨a, b⟩ | ⟨s, a, b⟩ | ⟨s, m, k, m', k', a, b, e⟩
    · exact Or.inl ⟨b, a⟩
    · exact Or.inr (Or.inl ⟨s, b, a⟩)
    · exact Or.inr (Or.inr ⟨s, m', k', m, k, b, a, e.symm⟩)
  exact ⟨h.x.symm, h.y.symm, h.m.symm, h.s.symm, h.e.symm, fun i hi => (h.tD i hi).symm, fun i hi => (h.tC i hi).symm, fun i hi => (h.cD i hi).symm, fun i hi => (h.cL i hi).symm, fun i hi => (h.cC i hi).symm, fun i hi => (h.d i hi).symm, fun i hi => ss (h.r i hi), h.time.symm, h.ran.symm, h.fault.symm⟩
/-- Every word has a text. -/
theorem txt_ex (x : Nat) : ∃ l, Txt x l := by
  rcases read_cases x with ⟨s, m, k, h⟩ | ⟨s, h⟩ | h
  · by_cases h0 : m = 0
    · subst h0; exact ⟨_, Or.inr (Or.inr (Or.inl ⟨s, k, h, rfl⟩))⟩
    · have key : ∀ (j m k : Nat), m ≤ j → m ≠ 0 → ∃ n c, n % 2 = 1 ∧ m * 2 ^ k = n * 2 ^ c := by
        intro j
        induction j with
        | zero => intro m k h1 h2; omega
        | succ j ih =>
          intro m k h1 h2
          by_cases ho : m % 2 = 1
          · exact ⟨m, k, ho, rfl⟩
          · obtain ⟨n, c, e1, e2⟩ := ih (m / 2) (k + 1) (by omega) (by omega)
            refine ⟨n, c, e1, ?_⟩
            rw [← e2, Nat.pow_succ, Nat.mul_comm (2 ^ k) 2, ← Nat.mul_assoc, show m / 2 * 2 = m by omega]
      obtain ⟨n, c, e1, e2⟩ := key m m k (Nat.le_refl _) h0
      exact ⟨_, Or.inr (Or.inr (Or.inr ⟨s, m, k, n, c, h, h0, e1, e2, rfl⟩))⟩
  · exact ⟨_, Or.inr (Or.inl ⟨s, h, rfl⟩)⟩
  · exact ⟨_, Or.inl ⟨h, rfl⟩⟩
theorem txts_ex (r : Nat → Nat) : ∃ tx : Nat → List UInt8, ∀ i, Txt (r i) (tx i) := ⟨fun i => Classical.choose (txt_ex (r i)), fun i => Classical.choose_spec (txt_ex (r i))⟩
theorem text_ex (v : MemV) : ∃ l, TextOf v l := by
  obtain ⟨tx, h⟩ := txts_ex v.r
  exact ⟨_, tx, fun i _ => h i, rfl⟩
theorem sameM_trans {a b c : MemV} (h : SameM a b) (g : SameM b c) : SameM a c := by
  have tt : ∀ {x y z : Nat}, Same x y → Same y z → Same x z := by
    intro x y z h g
    obtain ⟨l, hl⟩ := txt_ex x
    exact txt_same hl (by
      have h2 := txt_of_same g (txt_of_same h hl)
      exact h2)
  exact ⟨h.x.trans g.x, h.y.trans g.y, h.m.trans g.m, h.s.trans g.s, h.e.trans g.e, fun i hi => (h.tD i hi).trans (g.tD i hi), fun i hi => (h.tC i hi).trans (g.tC i hi), fun i hi => (h.cD i hi).trans (g.cD i hi), fun i hi => (h.cL i hi).trans (g.cL i hi), fun i hi => (h.cC i hi).trans (g.cC i hi), fun i hi => (h.d i hi).trans (g.d i hi), fun i hi => tt (h.r i hi) (g.r i hi), h.time.trans g.time, h.ran.trans g.ran, h.fault.trans g.fault⟩

/-- Unlike memories have unlike texts. -/
theorem text_inj {a b : MemV} {l : List UInt8} (ha : a.Ok) (hb : b.Ok) (h : TextOf a l) (g : TextOf b l) : SameM a b := by
  obtain ⟨tx, hx, rfl⟩ := h
  obtain ⟨ty, hy, e⟩ := g
  have ew := words_inj hx hy e
  obtain ⟨m, hm⟩ := steps_ex (allW a tx) memZ (fun w hw hk => by
    obtain ⟨h1, h2, -⟩ := (of_all hw).real hk
    exact ⟨_, h2 ▸ hx _ h1⟩)
  have s1 := back ha hx hm
  rw [ew] at hm
  exact sameM_trans (sameM_symm s1) (back hb hy hm)

end Go.Proofs.YtdhoimjkgicneaaGreatDoor

/- A text read word by word: what the words that are read make of a memory, and when the text is one. Of no one program. -/
namespace Go.Proofs.YtdhoimjkgicneaaGreatDoor
open Go

/-- What a reader of one word may make of a memory. -/
def Scans (m : MemV) (l : List UInt8) (m' : MemV) : Prop :=
  m'.Ok ∧ (l = [] → m' = m) ∧ ∀ (v : MemV) (tx : Nat → List UInt8) (w : Wd), v.Ok → (∀ i, i < 16 → Txt (v.r i) (tx i)) → WdOf v tx w → w.text = l → Step m w m'

def Chain : MemV → List (List UInt8) → MemV → Prop
  | m, [], m' => m' = m
  | m, l :: L, m' => ∃ m1, Scans m l m1 ∧ Chain m1 L m'

theorem Chain.snoc : ∀ {L : List (List UInt8)} {m m1 m2 : MemV} {l : List UInt8}, Chain m L m1 → Scans m1 l m2 → Chain m (L ++ [l]) m2
  | [], _, _, m2, _, h, g => ⟨m2, by cases h; exact g, rfl⟩
  | _ :: L, _, _, _, _, ⟨a, ha, h⟩, g => ⟨a, ha, Chain.snoc (L := L) h g⟩

/-- A word that is not empty. -/
def fullB (l : List UInt8) : Bool := !l.isEmpty

theorem Chain.full : ∀ {L : List (List UInt8)} {m m' : MemV}, Chain m L m' → Chain m (L.filter fullB) m'
  | [], _, _, h => h
  | l :: L, m, m', ⟨a, ha, h⟩ => by
    have ih := Chain.full (L := L) h
    cases l with
    | nil =>
      have := ha.2.1 rfl
      subst this
      exact ih
    | cons c cs =>
      rw [List.filter_cons_of_pos (by simp [fullB])]
      exact ⟨a, ha, ih⟩

theorem chain_steps {v : MemV} {tx : Nat → List UInt8} (hv : v.Ok) (ht : ∀ i, i < 16 → Txt (v.r i) (tx i)) : ∀ (L : List Wd), (∀ w ∈ L, WdOf v tx w) → ∀ m m', Chain m (L.map Wd.text) m' → Steps m L m'
  | [], _, _, _, h => h
  | w :: L, hL, m, m', ⟨a, ha, h⟩ => ⟨a, ha.2.2 v tx w hv ht (hL w (by simp)) rfl, chain_steps hv ht L (fun w hw => hL w (by simp [hw])) a m' h⟩

/-- A text cut at its spaces. -/
def splitS : List UInt8 → List (List UInt8)
  | [] => [[]]
  | c :: cs => if c = 32 then [] :: splitS cs else match splitS cs with
    | [] => [[c]]
    | w :: ws => (c :: w) :: ws

theorem splitS_ne (l : List UInt8) : splitS l ≠ [] := by
  cases l with
  | nil => simp [splitS]
  | cons c cs =>
    unfold splitS
    split
    · simp
    · split <;> simp

theorem splitS_one : ∀ {a : List UInt8}, (32 : UInt8) ∉ a → splitS a = [a]
  | [], _ => rfl
  | c :: cs, h => by
    have h1 : ¬ c = 32 := fun e => h (by simp [e])
    have h2 : (32 : UInt8) ∉ cs := fun e => h (by simp [e])
    rw [splitS, if_neg h1, splitS_one h2]

theorem splitS_cons : ∀ {a r : List UInt8}, (32 : UInt8) ∉ a → splitS (a ++ 32 :: r) = a :: splitS r
  | [], _, _ => by simp [splitS]
  | c :: cs, r, h => by
    have h1 : ¬ c = 32 := fun e => h (by simp [e])
    have h2 : (32 : UInt8) ∉ cs := fun e => h (by simp [e])
    rw [List.cons_append, splitS, if_neg h1, splitS_cons h2]

theorem splitS_len : ∀ (l : List UInt8), ∀ x ∈ splitS l, x.length ≤ l.length
  | [], x, h => by simp [splitS] at h; simp [h]
  | c :: cs, x, h => by
    have ih := splitS_len cs
    rw [splitS] at h
    split at h
    · rcases List.mem_cons.1 h with rfl | h
      · simp
      · have := ih x h; simp; omega
    · split at h
      · simp at h; simp [h]
      · rename_i w ws e
        rw [e] at ih
        rcases List.mem_cons.1 h with rfl | h
        · have := ih w (by simp); simp; omega
        · have := ih x (by simp [h]); simp; omega

theorem split_join : ∀ {L : List (List UInt8)}, (∀ x ∈ L, (32 : UInt8) ∉ x ∧ x ≠ []) → (splitS (Lib.join L [32])).filter fullB = L
  | [], _ => by simp [Lib.join, splitS, fullB]
  | [a], h => by
    obtain ⟨h1, h2⟩ := h a (by simp)
    have e : Lib.join [a] [32] = a := by simp [Lib.join]
    rw [e, splitS_one h1]
    cases a with
    | nil => exact absurd rfl h2
    | cons c cs => simp [fullB]
  | a :: b :: L, h => by
    obtain ⟨h1, h2⟩ := h a (by simp)
    have ih := split_join (L := b :: L) fun x hx => h x (by simp [hx])
    have e : Lib.join (a :: b :: L) [32] = a ++ 32 :: Lib.join (b :: L) [32] := by simp [Lib.join]
    rw [e, splitS_cons h1]
    cases a with
    | nil => exact absurd rfl h2
    | cons c cs => rw [List.filter_cons_of_pos (by simp [fullB]), ih]

/-- The library's own cutting is this. -/
theorem index_none : ∀ {a : List UInt8}, (32 : UInt8) ∉ a → Lib.index a [32] = -1
  | [], _ => by simp [Lib.index]
  | c :: cs, h => by
    have h1 : ¬ (32 : UInt8) = c := fun e => h (by simp [e])
    have h2 : (32 : UInt8) ∉ cs := fun e => h (by simp [e])
    simp [Lib.index, index_none h2, List.isPrefixOf, h1]

theorem index_at : ∀ {a r : List UInt8}, (32 : UInt8) ∉ a → Lib.index (a ++ 32 :: r) [32] = a.length
  | [], _, _ => by simp [Lib.index, List.isPrefixOf]
  | c :: cs, r, h => by
    have h1 : ¬ (32 : UInt8) = c := fun e => h (by simp [e])
    have h2 : (32 : UInt8) ∉ cs := fun e => h (by simp [e])
    have ih := index_at (r := r) h2
    rw [List.cons_append, Lib.index, ih, if_neg (by simp [List.isPrefixOf, h1])]
    have : ((cs.length : Int) == -1) = false := by simp
    rw [this]
    simp

theorem cases_sp : ∀ (l : List UInt8), (32 : UInt8) ∉ l ∨ ∃ a r, l = a ++ 32 :: r ∧ (32 : UInt8) ∉ a
  | [] => Or.inl (by simp)
  | c :: cs => by
    by_cases hc : c = 32
    · exact Or.inr ⟨[], cs, by simp [hc], by simp⟩
    · rcases cases_sp cs with h | ⟨a, r, e, h⟩
      · exact Or.inl (by simp [h, Ne.symm hc])
      · exact Or.inr ⟨c :: a, r, by simp [e], by simp [h, Ne.symm hc]⟩

theorem splitK_is : ∀ (f : Nat) (l : List UInt8), l.length < f → Lib.splitK [32] 0 (Lib.countFrom [32] f l) l = splitS l
  | 0, _, h => by omega
  | f + 1, l, h => by
    rcases cases_sp l with g | ⟨a, r, rfl, g⟩
    · rw [Lib.countFrom, index_none g, splitS_one g]
      rfl
    · have hr : r.length < f := by simp at h; omega
      have ih := splitK_is f r hr
      have e1 : (((a.length : Nat) : Int) == -1) = false := by simp
      have e2 : (a ++ 32 :: r).drop (a.length + 1) = r := by simp [List.drop_append]
      have e3 : (a ++ 32 :: r).take a.length = a := by simp
      rw [Lib.countFrom, index_at g, splitS_cons g, e1]
      simp only [Bool.false_eq_true, if_false, Int.toNat_natCast, List.length_singleton]
      rw [e2, Nat.add_comm, Lib.splitK, index_at g, e1]
      simp only [Bool.false_eq_true, if_false, Int.toNat_natCast, List.length_singleton, Nat.add_zero]
      rw [e2, e3, ih]

theorem split_is (l : List UInt8) : Lib.splitK [32] 0 (Lib.count l [32]) l = splitS l := splitK_is _ l (by omega)

/-- What is read of a text: a memory that has it, or nothing where none has it. -/
def ReadsM (l : List UInt8) (m : MemV) (ok : Bool) : Prop :=
  m.Ok ∧ ((ok = true ∧ l.length ≤ 6000 ∧ TextOf m l) ∨ (ok = false ∧ m = memZ ∧ (l.length ≤ 6000 → ∀ v : MemV, v.Ok → ¬ TextOf v l)))

theorem memZ_ok : memZ.Ok := by
  constructor <;> simp [memZ]

theorem reads_long {l : List UInt8} (h : 6000 < l.length) : ReadsM l memZ false := ⟨memZ_ok, Or.inr ⟨rfl, rfl, fun h' => by omega⟩⟩

theorem reads_fin {l : List UInt8} {m : MemV} (hc : Chain memZ ((splitS l).filter fullB) m) {v : MemV} (hv : v.Ok) (h : TextOf v l) : TextOf m l := by
  obtain ⟨tx, ht, rfl⟩ := h
  have e : (splitS (textV v tx)).filter fullB = (allW v tx).map Wd.text := split_join (words_good ht)
  rw [e] at hc
  have hs := back hv ht (chain_steps hv ht (allW v tx) (fun w hw => of_all hw) memZ m hc)
  exact text_same (sameM_symm hs) ⟨tx, ht, rfl⟩

theorem reads_two {l : List UInt8} {a b : MemV} {p q : Bool} (h : ReadsM l a p) (g : ReadsM l b q) : p = q ∧ SameM a b := by
  obtain ⟨ha, h⟩ := h
  obtain ⟨hb, g⟩ := g
  rcases h with ⟨rfl, h1, h2⟩ | ⟨rfl, rfl, h2⟩
  · rcases g with ⟨rfl, g1, g2⟩ | ⟨rfl, rfl, g2⟩
    · exact ⟨rfl, text_inj ha hb h2 g2⟩
    · exact absurd h2 (g2 h1 a ha)
  · rcases g with ⟨rfl, g1, g2⟩ | ⟨rfl, rfl, g2⟩
    · exact absurd g2 (h2 g1 b hb)
    · refine ⟨rfl, ?_⟩
      obtain ⟨k, hk⟩ := text_ex memZ
      exact text_inj memZ_ok memZ_ok hk hk

end Go.Proofs.YtdhoimjkgicneaaGreatDoor

/- The library's reading of whole numbers of 16 and of 32 bits; marks behind a number. Of no one program. -/
namespace Go.Proofs.YtdhoimjkgicneaaGreatDoor
open Go

theorem dval_ge : ∀ (l : List UInt8) (a : Nat), a ≤ dval l a
  | [], a => Nat.le_refl _
  | c :: cs, a => by
    have := dval_ge cs (a * 10 + (c.toNat - 48))
    show a ≤ dval cs (a * 10 + (c.toNat - 48))
    omega

theorem pum_ok {M : Nat} : ∀ (l : List UInt8) (a u : Nat), Lib.parseUintM M a l = .ok u → a ≤ M → u ≤ M
  | [], a, u, h, ha => by
    simp only [Lib.parseUintM] at h
    cases h; exact ha
  | c :: cs, a, u, h, ha => by
    rw [Lib.parseUintM] at h
    split at h
    · split at h
      · cases h
      · split at h
        · cases h
        · exact pum_ok cs _ u h (by omega)
    · cases h

theorem pum_dig {M : Nat} (hM : M ≤ 4294967295) : ∀ (l : List UInt8) (a : Nat), l.all isDig = true → dval l a ≤ M → Lib.parseUintM M a l = .ok (dval l a)
  | [], a, _, _ => rfl
  | c :: cs, a, h, hd => by
    simp only [List.all_cons, Bool.and_eq_true] at h
    have h1 : 48 ≤ c.toNat ∧ c.toNat ≤ 57 := by simpa [isDig] using h.1
    have hd' : dval cs (a * 10 + (c.toNat - 48)) ≤ M := hd
    have h2 := dval_ge cs (a * 10 + (c.toNat - 48))
    rw [Lib.parseUintM, if_pos h1, if_neg (by omega), if_neg (by omega)]
    exact pum_dig hM cs _ h.2 hd'

theorem uint_ok {B u : Nat} {l : List UInt8} (h : Lib.parseUintB B l = .ok u) : u ≤ 2 ^ B - 1 := by
  unfold Lib.parseUintB at h
  split at h
  · cases h
  · exact pum_ok l 0 u h (Nat.zero_le _)

theorem uint_dig {B c : Nat} (hB : 2 ^ B - 1 ≤ 4294967295) (hc : c ≤ 2 ^ B - 1) : Lib.parseUintB B (Lib.decDigits c) = .ok c := by
  have h1 : Lib.decDigits c ≠ [] := by
    have := dd_pos c
    intro h
    rw [h] at this
    simp at this
  unfold Lib.parseUintB
  rw [if_neg h1, pum_dig hB _ 0 (dd_all c) (by rw [dval_dd]; exact hc), dval_dd]

theorem int_ok16 {v : Int} {l : List UInt8} (h : Lib.parseIntB 16 l = .ok v) : -32768 ≤ v ∧ v ≤ 32767 := by
  cases l with
  | nil => cases h
  | cons c r =>
    simp only [Lib.parseIntB] at h
    split at h
    · cases h
    · cases h
    · split at h
      · cases h
      · split at h
        · cases h
        · rename_i h1 h2
          simp only [Lib.NumEnd.ok.injEq] at h
          subst h
          split <;> omega

theorem dd_first {c : Nat} : ∃ x xs, Lib.decDigits c = x :: xs ∧ 48 ≤ x.toNat ∧ x.toNat ≤ 57 := by
  have h1 := dd_pos c
  have h2 := dd_all c
  cases h : Lib.decDigits c with
  | nil => rw [h] at h1; simp at h1
  | cons x xs =>
    rw [h] at h2
    simp only [List.all_cons, Bool.and_eq_true] at h2
    have h3 : 48 ≤ x.toNat ∧ x.toNat ≤ 57 := by simpa [isDig] using h2.1
    exact ⟨x, xs, rfl, h3⟩

theorem int_itoa16 {z : Int} (h1 : -32768 ≤ z) (h2 : z ≤ 32767) : Lib.parseIntB 16 (Lib.itoa z) = .ok z := by
  by_cases h0 : 0 ≤ z
  · obtain ⟨m, rfl⟩ : ∃ m : Nat, z = m := ⟨z.toNat, by omega⟩
    obtain ⟨x, xs, e, x1, x2⟩ := dd_first (c := m)
    have hu : Lib.parseUintB 16 (x :: xs) = .ok m := e ▸ uint_dig (B := 16) (by omega) (by omega)
    rw [Lib.itoa_nonneg, e]
    simp only [Lib.parseIntB]
    rw [if_neg (by omega), hu]
    simp only
    rw [if_neg (by omega), if_neg (by omega), if_neg (by omega)]
  · obtain ⟨m, rfl⟩ : ∃ m : Nat, z = -(m : Int) := ⟨z.natAbs, by omega⟩
    have hu : Lib.parseUintB 16 (Lib.decDigits m) = .ok m := uint_dig (B := 16) (by omega) (by omega)
    rw [Lib.itoa_neg m (by omega)]
    simp only [Lib.parseIntB]
    rw [if_pos (by decide), hu]
    simp only
    rw [if_neg (by simp), if_neg (by omega), if_pos (by decide)]

theorem sat16 (l : List UInt8) : -32768 ≤ Lib.intSat 16 l ∧ Lib.intSat 16 l ≤ 32767 := by
  unfold Lib.intSat
  split <;> simp

theorem suf_yes (a : List UInt8) (c : UInt8) : Lib.hasSuffix (a ++ [c]) [c] = true ∧ Lib.trimSuffix (a ++ [c]) [c] = a := by
  have h : Lib.hasSuffix (a ++ [c]) [c] = true := by
    unfold Lib.hasSuffix
    exact List.isSuffixOf_iff_suffix.2 ⟨a, rfl⟩
  refine ⟨h, ?_⟩
  unfold Lib.trimSuffix
  rw [if_pos h]
  simp

theorem suf_no {l : List UInt8} {c : UInt8} (h : l.getLast? ≠ some c) : Lib.hasSuffix l [c] = false ∧ Lib.trimSuffix l [c] = l := by
  have h1 : Lib.hasSuffix l [c] = false := by
    cases hs : Lib.hasSuffix l [c] with
    | false => rfl
    | true =>
      obtain ⟨a, rfl⟩ := List.isSuffixOf_iff_suffix.1 hs
      exact absurd (by simp) h
  refine ⟨h1, ?_⟩
  unfold Lib.trimSuffix
  rw [h1]
  rfl

theorem suf_len (l : List UInt8) (c : UInt8) : (Lib.trimSuffix l [c]).length ≤ l.length := by
  unfold Lib.trimSuffix
  split
  · simp
  · exact Nat.le_refl _

theorem dd_last (c : Nat) : ∀ x, (Lib.decDigits c).getLast? = some x → 48 ≤ x.toNat ∧ x.toNat ≤ 57 := by
  intro x hx
  have h1 := List.mem_of_getLast? hx
  have h2 := List.all_eq_true.1 (dd_all c) x h1
  simpa [isDig] using h2

/-- The marks behind a count are taken off one by one. -/
theorem unmark (c : Nat) (d l : Bool) : Lib.hasSuffix (countL c d l) [43] = l ∧ Lib.trimSuffix (countL c d l) [43] = Lib.decDigits c ++ markL d 33 ∧
    Lib.hasSuffix (Lib.decDigits c ++ markL d 33) [33] = d ∧ Lib.trimSuffix (Lib.decDigits c ++ markL d 33) [33] = Lib.decDigits c := by
  have n43 : (Lib.decDigits c).getLast? ≠ some 43 := fun h => absurd (dd_last c _ h) (by decide)
  have n33 : (Lib.decDigits c).getLast? ≠ some 33 := fun h => absurd (dd_last c _ h) (by decide)
  have m43 : (Lib.decDigits c ++ markL d 33).getLast? ≠ some 43 := by
    cases d
    · simpa [markL] using n43
    · simp [markL]
  have a : Lib.hasSuffix (countL c d l) [43] = l ∧ Lib.trimSuffix (countL c d l) [43] = Lib.decDigits c ++ markL d 33 := by
    unfold countL
    rw [← List.append_assoc]
    cases l
    · simp only [markL, Bool.false_eq_true, if_false, List.append_nil]
      exact suf_no (by simpa [markL] using m43)
    · exact suf_yes _ 43
  refine ⟨a.1, a.2, ?_⟩
  cases d
  · simp only [markL, Bool.false_eq_true, if_false, List.append_nil]
    exact suf_no n33
  · exact suf_yes _ 33

end Go.Proofs.YtdhoimjkgicneaaGreatDoor
