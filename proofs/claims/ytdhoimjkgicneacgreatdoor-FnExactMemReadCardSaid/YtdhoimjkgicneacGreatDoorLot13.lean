/- Texts of this proof laid together: MrQ, MemQ, MrW. -/
import Derived.Test.YtdhoimjkgicneacGreatDoorLot5
import Derived.Test.YtdhoimjkgicneacGreatDoorLot12
import Derived.Test.YtdhoimjkgicneacGreatDoorLot1
/- The words of the text of a memory, one by one: what stands ahead of the sign of equality and what behind it; and what a reader of one word makes of a memory. -/
namespace Go.Proofs.YtdhoimjkgicneacGreatDoor
open Go

def timeL : List UInt8 := [116, 105, 109, 101]
def ranL : List UInt8 := [114, 97, 110]
def faultL : List UInt8 := [102, 97, 117, 108, 116]

theorem text_uniq {k n p k' n' p' : Int} (h : okB k n p = true) (h' : okB k' n' p' = true) (e : textL k n p = textL k' n' p') : k = k' ∧ n = n' ∧ p = p' := by
  have a := (read_same h rfl).2
  have b := (read_same h' e.symm).2
  rw [a] at b
  simpa using b

theorem ok_devN {k n : Nat} (hk : 1 ≤ k ∧ k ≤ 10) (hn : (n : Int) < sizeZ k) : okB k n 0 = true := by
  unfold okB
  rw [if_neg (by omega), if_neg (by omega), if_neg (by omega)]
  exact decide_eq_true ⟨by omega, hn, rfl⟩

theorem text_devN {k n : Nat} (hk : 1 ≤ k ∧ k ≤ 10) (h : okB k n 0 = true) : textL k n 0 = letterL k ++ Lib.decDigits n := by
  unfold textL
  rw [if_neg (by rw [h]; decide), if_neg (by omega), if_neg (by omega), if_neg (by omega), Lib.itoa_nonneg]

/-- The first letter of a device is a great one. -/
theorem letter_great {k : Nat} (hk : 1 ≤ k ∧ k ≤ 10) : ∃ c : UInt8, letterL k = [c] ∧ 65 ≤ c.toNat ∧ c.toNat ≤ 90 := by
  obtain ⟨h1, h2⟩ := hk
  have h : k = 1 ∨ k = 2 ∨ k = 3 ∨ k = 4 ∨ k = 5 ∨ k = 6 ∨ k = 7 ∨ k = 8 ∨ k = 9 ∨ k = 10 := by omega
  rcases h with rfl | rfl | rfl | rfl | rfl | rfl | rfl | rfl | rfl | rfl
  · exact ⟨88, by decide, by decide, by decide⟩
  · exact ⟨89, by decide, by decide, by decide⟩
  · exact ⟨77, by decide, by decide, by decide⟩
  · exact ⟨83, by decide, by decide, by decide⟩
  · exact ⟨69, by decide, by decide, by decide⟩
  · exact ⟨71, by decide, by decide, by decide⟩
  · exact ⟨84, by decide, by decide, by decide⟩
  · exact ⟨67, by decide, by decide, by decide⟩
  · exact ⟨68, by decide, by decide, by decide⟩
  · exact ⟨82, by decide, by decide, by decide⟩

theorem dev_name {k n : Nat} (hk : 1 ≤ k ∧ k ≤ 10) (h : okB k n 0 = true) : ∃ (c : UInt8) (r : List UInt8), textL k n 0 = c :: r ∧ 65 ≤ c.toNat ∧ c.toNat ≤ 90 ∧ (61 : UInt8) ∉ textL k n 0 := by
  obtain ⟨c, e, h1, h2⟩ := letter_great hk
  have ht := text_devN hk h
  rw [e] at ht
  refine ⟨c, Lib.decDigits n, by simpa using ht, h1, h2, ?_⟩
  rw [ht]
  intro hm
  rcases List.mem_append.1 hm with hm | hm
  · have : (61 : UInt8) = c := by simpa using hm
    subst this
    exact absurd h1 (by decide)
  · have := List.all_eq_true.1 (dd_all n) 61 hm
    exact absurd this (by decide)

/-- What stands ahead of the first sign of equality, and behind it. -/
def NV (l nm va : List UInt8) : Prop := ((61 : UInt8) ∉ l ∧ nm = l ∧ va = []) ∨ (l = nm ++ 61 :: va ∧ (61 : UInt8) ∉ nm)

theorem split_eq : ∀ {a b r r' : List UInt8}, (61 : UInt8) ∉ a → (61 : UInt8) ∉ b → a ++ 61 :: r = b ++ 61 :: r' → a = b ∧ r = r'
  | [], [], _, _, _, _, h => by simpa using h
  | [], c :: cs, _, _, _, hb, h => by
    have := (List.cons.inj h).1
    exact absurd (by simp [this]) hb
  | c :: cs, [], _, _, ha, _, h => by
    have := (List.cons.inj h).1
    exact absurd (by simp [this]) ha
  | c :: cs, d :: ds, r, r', ha, hb, h => by
    obtain ⟨h1, h2⟩ := List.cons.inj h
    obtain ⟨e1, e2⟩ := split_eq (fun g => ha (by simp [g])) (fun g => hb (by simp [g])) h2
    exact ⟨by rw [h1, e1], e2⟩

theorem nv_one {l nm va : List UInt8} (h : NV l nm va) (h0 : (61 : UInt8) ∉ l) : nm = l ∧ va = [] := by
  rcases h with ⟨-, h1, h2⟩ | ⟨h1, -⟩
  · exact ⟨h1, h2⟩
  · exact absurd (by rw [h1]; simp) h0
theorem nv_two {l nm va a r : List UInt8} (h : NV l nm va) (e : l = a ++ 61 :: r) (h0 : (61 : UInt8) ∉ a) : nm = a ∧ va = r := by
  rcases h with ⟨h1, -, -⟩ | ⟨h1, h2⟩
  · exact absurd (by rw [e]; simp) h1
  · exact split_eq h2 h0 (h1.symm.trans e)

theorem scans_of {m m' : MemV} {l nm va : List UInt8} (ok : m'.Ok) (hnv : NV l nm va) (h0 : l = [] → m' = m)
    (ht : nm = timeL → ∀ c, c < 4294967296 → va = Lib.decDigits c → m' = { m with time := c }) (hr : l = ranL → m' = { m with ran := true }) (hf : l = faultL → m' = { m with fault := true })
    (hb : ∀ k n : Nat, 1 ≤ k → k ≤ 5 → n < szN k → okB k n 0 = true → textL k n 0 = nm → l = nm → m' = orV m k n)
    (h7 : ∀ (n c : Nat) (d : Bool), n < 16 → c < 65536 → okB 7 n 0 = true → textL 7 n 0 = nm → va = countL c d false → m' = timV m n c d)
    (h8 : ∀ (n c : Nat) (d e : Bool), n < 16 → c < 65536 → okB 8 n 0 = true → textL 8 n 0 = nm → va = countL c d e → m' = cntV m n c d e)
    (h9 : ∀ (n : Nat) (z : Int), n < 32 → -32768 ≤ z → z ≤ 32767 → okB 9 n 0 = true → textL 9 n 0 = nm → va = Lib.itoa z → m' = intV m n z)
    (h10 : ∀ (n x : Nat), n < 16 → Txt x va → okB 10 n 0 = true → textL 10 n 0 = nm → ∃ y, Txt y va ∧ m' = reaV m n y) : Scans m l m' := by
  refine ⟨ok, h0, ?_⟩
  intro v tx w hv hx hw e
  have dev : ∀ (k : Nat) (r : List UInt8), w.k = k → k = 7 ∨ k = 8 ∨ k = 9 ∨ k = 10 → w.n < 16 ∨ (k = 9 ∧ w.n < 32) → w.tail = 61 :: r → okB k w.n 0 = true ∧ textL k w.n 0 = nm ∧ va = r := by
    intro k r hk hs hn htl
    have hok : okB k w.n 0 = true := ok_devN ⟨by omega, by omega⟩ (by
      rcases hs with rfl | rfl | rfl | rfl
      all_goals (simp [sizeZ]; omega))
    obtain ⟨c, q, -, -, -, hne⟩ := dev_name ⟨by omega, by omega⟩ hok
    have e2 : l = textL k w.n 0 ++ 61 :: r := by
      rw [← e, text_devN ⟨by omega, by omega⟩ hok]
      unfold Wd.text
      rw [hk, if_neg (by omega), if_neg (by omega), if_neg (by omega), htl]
      simp
    obtain ⟨h1, h2⟩ := nv_two hnv e2 hne
    exact ⟨hok, h1.symm, h2⟩
  have bit : 1 ≤ w.k → w.k ≤ 5 → Step m w m' := by
    intro h1 h5
    obtain ⟨hn, -⟩ := hw.bit h5
    have hz : (szN w.k : Int) = sizeZ w.k := by
      have hs : w.k = 1 ∨ w.k = 2 ∨ w.k = 3 ∨ w.k = 4 ∨ w.k = 5 := by omega
      rcases hs with h | h | h | h | h <;> rw [h] <;> decide
    have hok : okB w.k w.n 0 = true := ok_devN ⟨by omega, by omega⟩ (by omega)
    obtain ⟨c, q, -, -, -, hne⟩ := dev_name ⟨by omega, by omega⟩ hok
    have e2 : l = textL w.k w.n 0 := by
      rw [← e, text_devN ⟨by omega, by omega⟩ hok]
      unfold Wd.text Wd.tail
      rw [if_neg (by omega), if_neg (by omega), if_neg (by omega), if_pos h5]
      simp
    obtain ⟨g1, -⟩ := nv_one hnv (e2 ▸ hne)
    unfold Step
    rw [if_pos h5]
    exact hb w.k w.n h1 h5 hn hok (e2.symm.trans g1.symm) g1.symm
  rcases hw.kind with h | h | h | h | h | h | h | h | h | h | h | h
  · exact bit (by omega) (by omega)
  · exact bit (by omega) (by omega)
  · exact bit (by omega) (by omega)
  · exact bit (by omega) (by omega)
  · exact bit (by omega) (by omega)
  · obtain ⟨hn, hc, hd, hl, -⟩ := hw.timer h
    obtain ⟨a, b, c⟩ := dev 7 (countL w.c w.d w.l) h (by omega) (by omega) (by simp [Wd.tail, h])
    unfold Step
    rw [if_neg (by omega), if_pos h]
    exact h7 w.n w.c w.d hn (by rw [hc]; exact hv.tC _) a b (by rw [c, hl])
  · obtain ⟨hn, hc, -⟩ := hw.counter h
    obtain ⟨a, b, c⟩ := dev 8 (countL w.c w.d w.l) h (by omega) (by omega) (by simp [Wd.tail, h])
    unfold Step
    rw [if_neg (by omega), if_neg (by omega), if_pos h]
    exact h8 w.n w.c w.d w.l hn (by rw [hc]; exact hv.cC _) a b c
  · obtain ⟨hn, hz, -⟩ := hw.int h
    obtain ⟨a, b, c⟩ := dev 9 (Lib.itoa w.z) h (by omega) (by omega) (by simp [Wd.tail, h])
    unfold Step
    rw [if_neg (by omega), if_neg (by omega), if_neg (by omega), if_pos h]
    exact h9 w.n w.z hn (by rw [hz]; exact hv.d1 _) (by rw [hz]; exact hv.d2 _) a b c
  · obtain ⟨hn, ht', -⟩ := hw.real h
    obtain ⟨a, b, c⟩ := dev 10 w.t h (by omega) (by omega) (by simp [Wd.tail, h])
    unfold Step
    rw [if_neg (by omega), if_neg (by omega), if_neg (by omega), if_neg (by omega), if_pos h]
    obtain ⟨y, y1, y2⟩ := h10 w.n (v.r w.n) hn (by rw [c, ht']; exact hx _ hn) a b
    exact ⟨y, c ▸ y1, y2⟩
  · obtain ⟨hc, -⟩ := hw.time h
    have e2 : l = timeL ++ 61 :: Lib.decDigits w.c := by
      rw [← e]
      unfold Wd.text
      rw [if_pos h]
      rfl
    obtain ⟨a, b⟩ := nv_two hnv e2 (by decide)
    unfold Step
    rw [if_neg (by omega), if_neg (by omega), if_neg (by omega), if_neg (by omega), if_neg (by omega), if_pos h]
    exact ht a w.c (by rw [hc]; exact hv.time) b
  · have e2 : l = ranL := by
      rw [← e]
      unfold Wd.text
      rw [if_neg (by omega), if_pos h]
      rfl
    unfold Step
    rw [if_neg (by omega), if_neg (by omega), if_neg (by omega), if_neg (by omega), if_neg (by omega), if_neg (by omega), if_pos h]
    exact hr e2
  · have e2 : l = faultL := by
      rw [← e]
      unfold Wd.text
      rw [if_neg (by omega), if_neg (by omega), if_pos h]
      rfl
    unfold Step
    rw [if_neg (by omega), if_neg (by omega), if_neg (by omega), if_neg (by omega), if_neg (by omega), if_neg (by omega), if_neg (by omega)]
    exact hf e2

/-- A name that begins with a small letter is no device's. -/
theorem small_name {k n : Nat} {l : List UInt8} (hk : 1 ≤ k ∧ k ≤ 10) (h : okB k n 0 = true) (hl : ∀ c r, l = c :: r → ¬ (65 ≤ c.toNat ∧ c.toNat ≤ 90)) : textL k n 0 ≠ l := by
  obtain ⟨c, r, e, h1, h2, -⟩ := dev_name hk h
  intro e2
  exact hl c r (e2.symm.trans e) ⟨h1, h2⟩

theorem small_time : ∀ c r, timeL = c :: r → ¬ (65 ≤ c.toNat ∧ c.toNat ≤ 90) := by
  intro c r h
  obtain ⟨rfl, -⟩ := List.cons.inj h
  decide
theorem small_ran : ∀ c r, ranL = c :: r → ¬ (65 ≤ c.toNat ∧ c.toNat ≤ 90) := by
  intro c r h
  obtain ⟨rfl, -⟩ := List.cons.inj h
  decide
theorem small_fault : ∀ c r, faultL = c :: r → ¬ (65 ≤ c.toNat ∧ c.toNat ≤ 90) := by
  intro c r h
  obtain ⟨rfl, -⟩ := List.cons.inj h
  decide

theorem nv_nm {l nm va a : List UInt8} (h : NV l nm va) (e : l = a) (h0 : (61 : UInt8) ∉ a) : nm = a := by
  subst e
  exact (nv_one h h0).1

theorem scans_time {m m' : MemV} {l nm va : List UInt8} (hnv : NV l nm va) (e : nm = timeL) (ok : m'.Ok) (h : ∀ c, c < 4294967296 → va = Lib.decDigits c → m' = { m with time := c }) : Scans m l m' := by
  subst e
  refine scans_of ok hnv (fun g => ?_) (fun _ => h) (fun g => ?_) (fun g => ?_) (fun k n h1 h2 _ h3 h4 _ => ?_) (fun n c d _ _ h3 h4 _ => ?_) (fun n c d e _ _ h3 h4 _ => ?_) (fun n z _ _ _ h3 h4 _ => ?_) (fun n x _ _ h3 h4 => ?_)
  · exact absurd (nv_nm hnv g (by decide)) (by decide)
  · exact absurd (nv_nm hnv g (by decide)) (by decide)
  · exact absurd (nv_nm hnv g (by decide)) (by decide)
  · exact absurd h4 (small_name ⟨h1, by omega⟩ h3 small_time)
  · exact absurd h4 (small_name (k := 7) (by omega) h3 small_time)
  · exact absurd h4 (small_name (k := 8) (by omega) h3 small_time)
  · exact absurd h4 (small_name (k := 9) (by omega) h3 small_time)
  · exact absurd h4 (small_name (k := 10) (by omega) h3 small_time)

theorem scans_ran {m m' : MemV} {l nm va : List UInt8} (hnv : NV l nm va) (e : nm = ranL) (ok : m'.Ok) (h : l = ranL → m' = { m with ran := true }) : Scans m l m' := by
  subst e
  refine scans_of ok hnv (fun g => ?_) (fun g => absurd g (by decide)) h (fun g => ?_) (fun k n h1 h2 _ h3 h4 _ => ?_) (fun n c d _ _ h3 h4 _ => ?_) (fun n c d e _ _ h3 h4 _ => ?_) (fun n z _ _ _ h3 h4 _ => ?_) (fun n x _ _ h3 h4 => ?_)
  · exact absurd (nv_nm hnv g (by decide)) (by decide)
  · exact absurd (nv_nm hnv g (by decide)) (by decide)
  · exact absurd h4 (small_name ⟨h1, by omega⟩ h3 small_ran)
  · exact absurd h4 (small_name (k := 7) (by omega) h3 small_ran)
  · exact absurd h4 (small_name (k := 8) (by omega) h3 small_ran)
  · exact absurd h4 (small_name (k := 9) (by omega) h3 small_ran)
  · exact absurd h4 (small_name (k := 10) (by omega) h3 small_ran)

theorem scans_fault {m m' : MemV} {l nm va : List UInt8} (hnv : NV l nm va) (e : nm = faultL) (ok : m'.Ok) (h : l = faultL → m' = { m with fault := true }) : Scans m l m' := by
  subst e
  refine scans_of ok hnv (fun g => ?_) (fun g => absurd g (by decide)) (fun g => ?_) h (fun k n h1 h2 _ h3 h4 _ => ?_) (fun n c d _ _ h3 h4 _ => ?_) (fun n c d e _ _ h3 h4 _ => ?_) (fun n z _ _ _ h3 h4 _ => ?_) (fun n x _ _ h3 h4 => ?_)
  · exact absurd (nv_nm hnv g (by decide)) (by decide)
  · exact absurd (nv_nm hnv g (by decide)) (by decide)
  · exact absurd h4 (small_name ⟨h1, by omega⟩ h3 small_fault)
  · exact absurd h4 (small_name (k := 7) (by omega) h3 small_fault)
  · exact absurd h4 (small_name (k := 8) (by omega) h3 small_fault)
  · exact absurd h4 (small_name (k := 9) (by omega) h3 small_fault)
  · exact absurd h4 (small_name (k := 10) (by omega) h3 small_fault)

theorem scans_none {m m' : MemV} {l nm va : List UInt8} (hnv : NV l nm va) (e1 : nm ≠ timeL) (e2 : nm ≠ ranL) (e3 : nm ≠ faultL) (hn : ∀ k n p : Int, okB k n p = true → textL k n p ≠ nm) (ok : m'.Ok) (h : l = [] → m' = m) : Scans m l m' := by
  refine scans_of ok hnv h (fun g => absurd g e1) (fun g => ?_) (fun g => ?_) (fun k n _ _ _ h3 h4 _ => ?_) (fun n c d _ _ h3 h4 _ => ?_) (fun n c d e _ _ h3 h4 _ => ?_) (fun n z _ _ _ h3 h4 _ => ?_) (fun n x _ _ h3 h4 => ?_)
  · exact absurd (nv_nm hnv g (by decide)) e2
  · exact absurd (nv_nm hnv g (by decide)) e3
  all_goals exact absurd h4 (hn _ _ _ h3)

theorem scans_dev {m m' : MemV} {l nm va : List UInt8} {k n p : Int} (hnv : NV l nm va) (e1 : nm ≠ timeL) (e2 : nm ≠ ranL) (e3 : nm ≠ faultL) (ho : okB k n p = true) (hn : textL k n p = nm) (ok : m'.Ok)
    (hb : 1 ≤ k → k ≤ 5 → l = nm → m' = orV m k.toNat n.toNat)
    (h7 : k = 7 → ∀ (c : Nat) (d : Bool), c < 65536 → va = countL c d false → m' = timV m n.toNat c d)
    (h8 : k = 8 → ∀ (c : Nat) (d e : Bool), c < 65536 → va = countL c d e → m' = cntV m n.toNat c d e)
    (h9 : k = 9 → ∀ (z : Int), -32768 ≤ z → z ≤ 32767 → va = Lib.itoa z → m' = intV m n.toNat z)
    (h10 : k = 10 → ∀ x, Txt x va → ∃ y, Txt y va ∧ m' = reaV m n.toNat y) : Scans m l m' := by
  have un : ∀ {j i : Nat}, okB j i 0 = true → textL j i 0 = nm → k = j ∧ n = i ∧ p = 0 := fun h3 h4 => text_uniq ho h3 (hn.trans h4.symm)
  refine scans_of ok hnv (fun g => ?_) (fun g => absurd g e1) (fun g => absurd (nv_nm hnv g (by decide)) e2) (fun g => absurd (nv_nm hnv g (by decide)) e3) (fun j i h1 h2 _ h3 h4 h5 => ?_) (fun i c d _ hc h3 h4 h5 => ?_) (fun i c d e _ hc h3 h4 h5 => ?_) (fun i z _ z1 z2 h3 h4 h5 => ?_) (fun i x _ hx h3 h4 => ?_)
  · exfalso
    have g2 := nv_nm hnv g (by decide)
    exact textL_ne ho (hn.trans g2)
  · obtain ⟨rfl, rfl, -⟩ := un h3 h4
    simpa using hb (by omega) (by omega) h5
  · obtain ⟨rfl, rfl, -⟩ := un (j := 7) h3 h4
    simpa using h7 rfl c d hc h5
  · obtain ⟨rfl, rfl, -⟩ := un (j := 8) h3 h4
    simpa using h8 rfl c d e hc h5
  · obtain ⟨rfl, rfl, -⟩ := un (j := 9) h3 h4
    simpa using h9 rfl z z1 z2 h5
  · obtain ⟨rfl, rfl, -⟩ := un (j := 10) h3 h4
    simpa using h10 rfl x hx

end Go.Proofs.YtdhoimjkgicneacGreatDoor

/- A memory with one cell written, whichever it is. Of no one program. -/
namespace Go.Proofs.YtdhoimjkgicneacGreatDoor
open Go Go.RowKit

def natU (u : Value) : Nat := match u with | .int _ n => n.toNat | _ => 0
def intU (u : Value) : Int := match u with | .int _ n => n | _ => 0
def boolU (u : Value) : Bool := match u with | .bool b => b | _ => false
def wordU (u : Value) : Nat := match u with | .float _ n => n | _ => 0

/-- The memory with cell k written. -/
def MemV.upd (v : MemV) (k : Nat) (u : Value) : MemV :=
  ⟨if k = 0 then natU u else v.x, if k = 1 then natU u else v.y, if k = 2 then natU u else v.m, if k = 3 then natU u else v.s, if k = 4 then natU u else v.e,
    fun i => if k = 5 + i * 2 ∧ i < 16 then boolU u else v.tD i, fun i => if k = 5 + i * 2 + 1 ∧ i < 16 then natU u else v.tC i,
    fun i => if k = 37 + i * 3 ∧ i < 16 then boolU u else v.cD i, fun i => if k = 37 + i * 3 + 1 ∧ i < 16 then boolU u else v.cL i, fun i => if k = 37 + i * 3 + 2 ∧ i < 16 then natU u else v.cC i,
    fun i => if k = 85 + i ∧ i < 32 then intU u else v.d i, fun i => if k = 117 + i ∧ i < 16 then wordU u else v.r i, if k = 133 then natU u else v.time, if k = 134 then boolU u else v.ran, if k = 135 then boolU u else v.fault⟩

/-- What fits cell k. -/
def fitC (k : Nat) (u : Value) : Prop :=
  if k = 0 ∨ k = 1 ∨ k = 4 ∨ k = 133 then ∃ n : Nat, n < 4294967296 ∧ u = .int .u32 n
  else if k = 2 then ∃ n : Nat, n < 18446744073709551616 ∧ u = .int .u64 n
  else if k = 3 then ∃ n : Nat, n < 65536 ∧ u = .int .u16 n
  else if k < 37 then (if (k - 5) % 2 = 0 then ∃ b, u = .bool b else ∃ n : Nat, n < 65536 ∧ u = .int .u16 n)
  else if k < 85 then (if (k - 37) % 3 = 2 then ∃ n : Nat, n < 65536 ∧ u = .int .u16 n else ∃ b, u = .bool b)
  else if k < 117 then ∃ z : Int, -32768 ≤ z ∧ z ≤ 32767 ∧ u = .int .i16 z
  else if k < 133 then ∃ n : Nat, n < 2 ^ 64 ∧ u = .float .f64 n
  else ∃ b, u = .bool b

theorem fit_nat {k : Nat} {u : Value} (h : fitC k u) (hk : k < 136) : (k = 0 ∨ k = 1 ∨ k = 4 ∨ k = 133 → natU u < 4294967296) ∧ (k = 2 → natU u < 18446744073709551616) ∧ (k = 3 → natU u < 65536) ∧
    (∀ i, i < 16 → k = 5 + i * 2 + 1 ∨ k = 37 + i * 3 + 2 → natU u < 65536) ∧ (∀ i, i < 32 → k = 85 + i → -32768 ≤ intU u ∧ intU u ≤ 32767) ∧ (∀ i, i < 16 → k = 117 + i → wordU u < 2 ^ 64) := by
  unfold fitC at h
  have key : ∀ n : Nat, ((n : Int).toNat) = n := by intro n; omega
  refine ⟨fun e => ?_, fun e => ?_, fun e => ?_, fun i hi e => ?_, fun i hi e => ?_, fun i hi e => ?_⟩
  · rw [if_pos e] at h
    obtain ⟨n, hn, rfl⟩ := h
    simpa [natU] using hn
  · rw [if_neg (by omega), if_pos e] at h
    obtain ⟨n, hn, rfl⟩ := h
    simpa [natU] using hn
  · rw [if_neg (by omega), if_neg (by omega), if_pos e] at h
    obtain ⟨n, hn, rfl⟩ := h
    simpa [natU] using hn
  · rw [if_neg (by omega), if_neg (by omega), if_neg (by omega)] at h
    by_cases h37 : k < 37
    · rw [if_pos h37, if_neg (by omega)] at h
      obtain ⟨n, hn, rfl⟩ := h
      simpa [natU] using hn
    · rw [if_neg h37, if_pos (by omega), if_pos (by omega)] at h
      obtain ⟨n, hn, rfl⟩ := h
      simpa [natU] using hn
  · rw [if_neg (by omega), if_neg (by omega), if_neg (by omega), if_neg (by omega), if_neg (by omega), if_pos (by omega)] at h
    obtain ⟨z, h1, h2, rfl⟩ := h
    exact ⟨h1, h2⟩
  · rw [if_neg (by omega), if_neg (by omega), if_neg (by omega), if_neg (by omega), if_neg (by omega), if_neg (by omega), if_pos (by omega)] at h
    obtain ⟨n, hn, rfl⟩ := h
    exact hn

theorem upd_ok {v : MemV} {k : Nat} {u : Value} (hv : v.Ok) (hk : k < 136) (h : fitC k u) : (v.upd k u).Ok := by
  obtain ⟨f1, f2, f3, f4, f5, f6⟩ := fit_nat h hk
  refine ⟨?_, ?_, ?_, ?_, ?_, fun i => ?_, fun i => ?_, fun i => ?_, fun i => ?_, fun i => ?_, ?_⟩
  · simp only [MemV.upd]; split
    · exact f1 (by omega)
    · exact hv.x
  · simp only [MemV.upd]; split
    · exact f1 (by omega)
    · exact hv.y
  · simp only [MemV.upd]; split
    · exact f2 (by omega)
    · exact hv.m
  · simp only [MemV.upd]; split
    · exact f3 (by omega)
    · exact hv.s
  · simp only [MemV.upd]; split
    · exact f1 (by omega)
    · exact hv.e
  · simp only [MemV.upd]; split
    · rename_i g; exact f4 i g.2 (Or.inl g.1)
    · exact hv.tC i
  · simp only [MemV.upd]; split
    · rename_i g; exact f4 i g.2 (Or.inr g.1)
    · exact hv.cC i
  · simp only [MemV.upd]; split
    · rename_i g; exact (f5 i g.2 g.1).1
    · exact hv.d1 i
  · simp only [MemV.upd]; split
    · rename_i g; exact (f5 i g.2 g.1).2
    · exact hv.d2 i
  · simp only [MemV.upd]; split
    · rename_i g; exact f6 i g.2 g.1
    · exact hv.r i
  · simp only [MemV.upd]; split
    · exact f1 (by omega)
    · exact hv.time

theorem upd_other (v : MemV) {k j : Nat} (u : Value) (hj : j < 136) (hn : j ≠ k) : (v.upd k u).cell j = v.cell j := by
  unfold MemV.cell
  by_cases c0 : j = 0
  · subst c0; simp only [if_true, MemV.upd, if_neg (show ¬ k = 0 by omega)]
  by_cases c1 : j = 1
  · subst c1; simp [MemV.upd, show ¬ k = 1 by omega]
  by_cases c2 : j = 2
  · subst c2; simp [MemV.upd, show ¬ k = 2 by omega]
  by_cases c3 : j = 3
  · subst c3; simp [MemV.upd, show ¬ k = 3 by omega]
  by_cases c4 : j = 4
  · subst c4; simp [MemV.upd, show ¬ k = 4 by omega]
  rw [if_neg c0, if_neg c1, if_neg c2, if_neg c3, if_neg c4, if_neg c0, if_neg c1, if_neg c2, if_neg c3, if_neg c4]
  by_cases c37 : j < 37
  · rw [if_pos c37, if_pos c37]
    simp only [MemV.upd]
    split
    · rw [if_neg (by omega)]
    · rw [if_neg (by omega)]
  rw [if_neg c37, if_neg c37]
  by_cases c85 : j < 85
  · rw [if_pos c85, if_pos c85]
    simp only [MemV.upd]
    split
    · rw [if_neg (by omega)]
    split
    · rw [if_neg (by omega)]
    · rw [if_neg (by omega)]
  rw [if_neg c85, if_neg c85]
  by_cases c117 : j < 117
  · rw [if_pos c117, if_pos c117]
    simp only [MemV.upd]
    rw [if_neg (by omega)]
  rw [if_neg c117, if_neg c117]
  by_cases c133 : j < 133
  · rw [if_pos c133, if_pos c133]
    simp only [MemV.upd]
    rw [if_neg (by omega)]
  rw [if_neg c133, if_neg c133]
  simp only [MemV.upd]
  by_cases e1 : j = 133
  · rw [if_pos e1, if_pos e1, if_neg (by omega)]
  rw [if_neg e1, if_neg e1]
  by_cases e2 : j = 134
  · rw [if_pos e2, if_pos e2, if_neg (by omega)]
  rw [if_neg e2, if_neg e2, if_neg (by omega)]

theorem upd_same (v : MemV) {k : Nat} {u : Value} (hk : k < 136) (h : fitC k u) : (v.upd k u).cell k = u := by
  unfold fitC at h
  unfold MemV.cell
  by_cases c0 : k = 0
  · subst c0
    simp only [true_or, if_true] at h
    obtain ⟨n, hn, rfl⟩ := h
    simp [MemV.upd, natU]
  by_cases c1 : k = 1
  · subst c1
    rw [if_pos (by omega)] at h
    obtain ⟨n, hn, rfl⟩ := h
    simp [MemV.upd, natU]
  by_cases c2 : k = 2
  · subst c2
    rw [if_neg (by omega), if_pos rfl] at h
    obtain ⟨n, hn, rfl⟩ := h
    simp [MemV.upd, natU]
  by_cases c3 : k = 3
  · subst c3
    rw [if_neg (by omega), if_neg (by omega), if_pos rfl] at h
    obtain ⟨n, hn, rfl⟩ := h
    simp [MemV.upd, natU]
  by_cases c4 : k = 4
  · subst c4
    rw [if_pos (by omega)] at h
    obtain ⟨n, hn, rfl⟩ := h
    simp [MemV.upd, natU]
  rw [if_neg c0, if_neg c1, if_neg c2, if_neg c3, if_neg c4]
  by_cases c133 : k = 133
  · subst c133
    rw [if_pos (by omega)] at h
    obtain ⟨n, hn, rfl⟩ := h
    simp [MemV.upd, natU]
  rw [if_neg (by omega), if_neg c2, if_neg c3] at h
  by_cases c37 : k < 37
  · rw [if_pos c37] at h ⊢
    split at h
    · obtain ⟨b, rfl⟩ := h
      rw [if_pos (by assumption)]
      simp only [MemV.upd]
      rw [if_pos (by omega)]
      rfl
    · obtain ⟨n, hn, rfl⟩ := h
      rw [if_neg (by assumption)]
      simp only [MemV.upd]
      rw [if_pos (by omega)]
      simp [natU]
  rw [if_neg c37] at h ⊢
  by_cases c85 : k < 85
  · rw [if_pos c85] at h ⊢
    split at h
    · obtain ⟨n, hn, rfl⟩ := h
      rw [if_neg (by omega), if_neg (by omega)]
      simp only [MemV.upd]
      rw [if_pos (by omega)]
      simp [natU]
    · obtain ⟨b, rfl⟩ := h
      split
      · simp only [MemV.upd]
        rw [if_pos (by omega)]
        rfl
      · rw [if_pos (by omega)]
        simp only [MemV.upd]
        rw [if_pos (by omega)]
        rfl
  rw [if_neg c85] at h ⊢
  by_cases c117 : k < 117
  · rw [if_pos c117] at h ⊢
    obtain ⟨z, h1, h2, rfl⟩ := h
    simp only [MemV.upd]
    rw [if_pos (by omega)]
    rfl
  rw [if_neg c117] at h ⊢
  by_cases c133' : k < 133
  · rw [if_pos c133'] at h ⊢
    obtain ⟨n, hn, rfl⟩ := h
    simp only [MemV.upd]
    rw [if_pos (by omega)]
    rfl
  rw [if_neg c133'] at h ⊢
  obtain ⟨b, rfl⟩ := h
  rw [if_neg c133]
  by_cases e2 : k = 134
  · subst e2
    simp [MemV.upd, boolU]
  · have e3 : k = 135 := by omega
    subst e3
    simp [MemV.upd, boolU]

/-- Some memory lies in block b. -/
def MemSome (b : Nat) (w : World) : Prop := ∃ v : MemV, v.Ok ∧ MemAt b v w

theorem MemSome.set {b k : Nat} {u : Value} {w : World} (h : MemSome b w) (hk : k < 136) (hu : fitC k u) : MemSome b (w.setCell ⟨b, k, none⟩ u) := by
  obtain ⟨v, hv, hA⟩ := h
  refine ⟨v.upd k u, upd_ok hv hk hu, by simpa [World.setCell] using hA.z, fun i hi => ?_, fun i hi => by rw [World.frozen?_setCell]; exact hA.f i hi⟩
  by_cases e : i = k
  · subst e
    rw [World.cell?_setCell_same _ _ _ (hA.c i hi), upd_same v hk hu]
  · rw [World.cell?_setCell_other _ _ _ _ (by intro hh; cases hh; exact e rfl), hA.c i hi, upd_other v u hi e]
theorem MemSome.below {b B : Nat} {w w' : World} (h : MemSome b w) (hb : Below B w w') (hB : b < B) : MemSome b w' := by
  obtain ⟨v, hv, hA⟩ := h
  exact ⟨v, hv, hA.below hb hB⟩
theorem MemSome.z {b : Nat} {w : World} (h : MemSome b w) : b < w.heap.size := by
  obtain ⟨v, hv, hA⟩ := h
  exact hA.z
theorem MemSome.c {b k : Nat} {w : World} (h : MemSome b w) (hk : k < 136) : ∃ u, w.cell? ⟨b, k, none⟩ = some u := by
  obtain ⟨v, hv, hA⟩ := h
  exact ⟨_, hA.c k hk⟩
theorem MemSome.f {b k : Nat} {w : World} (h : MemSome b w) (hk : k < 136) : w.frozen? ⟨b, k, none⟩ = false := by
  obtain ⟨v, hv, hA⟩ := h
  exact hA.f k hk

end Go.Proofs.YtdhoimjkgicneacGreatDoor

/- A memory in which a word's value is written, cell by cell. Of no one program. -/
namespace Go.Proofs.YtdhoimjkgicneacGreatDoor
open Go Go.RowKit

theorem MemAt.upd {b k : Nat} {v : MemV} {u : Value} {w : World} (hA : MemAt b v w) (hk : k < 136) (hu : fitC k u) : MemAt b (v.upd k u) (w.setCell ⟨b, k, none⟩ u) := by
  refine ⟨by simpa [World.setCell] using hA.z, fun i hi => ?_, fun i hi => by rw [World.frozen?_setCell]; exact hA.f i hi⟩
  by_cases e : i = k
  · subst e
    rw [World.cell?_setCell_same _ _ _ (hA.c i hi), upd_same v hk hu]
  · rw [World.cell?_setCell_other _ _ _ _ (by intro hh; cases hh; exact e rfl), hA.c i hi, upd_other v u hi e]

theorem mem_ext {a b : MemV} (hx : a.x = b.x) (hy : a.y = b.y) (hm : a.m = b.m) (hs : a.s = b.s) (he : a.e = b.e) (htD : ∀ i, a.tD i = b.tD i) (htC : ∀ i, a.tC i = b.tC i) (hcD : ∀ i, a.cD i = b.cD i) (hcL : ∀ i, a.cL i = b.cL i) (hcC : ∀ i, a.cC i = b.cC i)
    (hd : ∀ i, a.d i = b.d i) (hr : ∀ i, a.r i = b.r i) (ht : a.time = b.time) (hn : a.ran = b.ran) (hf : a.fault = b.fault) : a = b := by
  cases a; cases b
  simp only at hx hy hm hs he htD htC hcD hcL hcC hd hr ht hn hf
  obtain rfl := hx; obtain rfl := hy; obtain rfl := hm; obtain rfl := hs; obtain rfl := he
  obtain rfl := funext htD; obtain rfl := funext htC; obtain rfl := funext hcD; obtain rfl := funext hcL; obtain rfl := funext hcC
  obtain rfl := funext hd; obtain rfl := funext hr; obtain rfl := ht; obtain rfl := hn; obtain rfl := hf
  rfl

theorem upd_time (v : MemV) (c : Nat) : v.upd 133 (.int .u32 c) = { v with time := c } := by
  refine mem_ext rfl rfl rfl rfl rfl (fun i => ?_) (fun i => ?_) (fun i => ?_) (fun i => ?_) (fun i => ?_) (fun i => ?_) (fun i => ?_) ?_ rfl rfl
  all_goals (simp only [MemV.upd])
  · rw [if_neg (by omega)]
  · rw [if_neg (by omega)]
  · rw [if_neg (by omega)]
  · rw [if_neg (by omega)]
  · rw [if_neg (by omega)]
  · rw [if_neg (by omega)]
  · rw [if_neg (by omega)]
  · simp [natU]

theorem upd_ran (v : MemV) (b : Bool) : v.upd 134 (.bool b) = { v with ran := b } := by
  refine mem_ext rfl rfl rfl rfl rfl (fun i => ?_) (fun i => ?_) (fun i => ?_) (fun i => ?_) (fun i => ?_) (fun i => ?_) (fun i => ?_) rfl rfl rfl
  all_goals (simp only [MemV.upd]; rw [if_neg (by omega)])

theorem upd_fault (v : MemV) (b : Bool) : v.upd 135 (.bool b) = { v with fault := b } := by
  refine mem_ext rfl rfl rfl rfl rfl (fun i => ?_) (fun i => ?_) (fun i => ?_) (fun i => ?_) (fun i => ?_) (fun i => ?_) (fun i => ?_) rfl rfl rfl
  all_goals (simp only [MemV.upd]; rw [if_neg (by omega)])

theorem upd_x (v : MemV) (c : Nat) : v.upd 0 (.int .u32 c) = { v with x := c } := by
  refine mem_ext ?_ rfl rfl rfl rfl (fun i => ?_) (fun i => ?_) (fun i => ?_) (fun i => ?_) (fun i => ?_) (fun i => ?_) (fun i => ?_) rfl rfl rfl
  · simp [MemV.upd, natU]
  all_goals (simp only [MemV.upd]; rw [if_neg (by omega)])

theorem upd_tim (v : MemV) (n c : Nat) (d : Bool) (hn : n < 16) : (v.upd (5 + n * 2) (.bool d)).upd (5 + n * 2 + 1) (.int .u16 c) = timV v n c d := by
  refine mem_ext ?_ ?_ ?_ ?_ ?_ (fun i => ?_) (fun i => ?_) (fun i => ?_) (fun i => ?_) (fun i => ?_) (fun i => ?_) (fun i => ?_) ?_ ?_ ?_
  all_goals (simp only [MemV.upd, timV])
  · rw [if_neg (by omega), if_neg (by omega)]
  · rw [if_neg (by omega), if_neg (by omega)]
  · rw [if_neg (by omega), if_neg (by omega)]
  · rw [if_neg (by omega), if_neg (by omega)]
  · rw [if_neg (by omega), if_neg (by omega)]
  · rw [if_neg (by omega)]
    by_cases h : i = n
    · rw [if_pos (by omega), if_pos h]; rfl
    · rw [if_neg (by omega), if_neg h]
  · by_cases h : i = n
    · rw [if_pos (by omega), if_pos h]; simp [natU]
    · rw [if_neg (by omega), if_neg h, if_neg (by omega)]
  · rw [if_neg (by omega), if_neg (by omega)]
  · rw [if_neg (by omega), if_neg (by omega)]
  · rw [if_neg (by omega), if_neg (by omega)]
  · rw [if_neg (by omega), if_neg (by omega)]
  · rw [if_neg (by omega), if_neg (by omega)]
  · rw [if_neg (by omega), if_neg (by omega)]
  · rw [if_neg (by omega), if_neg (by omega)]
  · rw [if_neg (by omega), if_neg (by omega)]

theorem upd_cnt (v : MemV) (n c : Nat) (d l : Bool) (hn : n < 16) : ((v.upd (37 + n * 3) (.bool d)).upd (37 + n * 3 + 1) (.bool l)).upd (37 + n * 3 + 2) (.int .u16 c) = cntV v n c d l := by
  refine mem_ext ?_ ?_ ?_ ?_ ?_ (fun i => ?_) (fun i => ?_) (fun i => ?_) (fun i => ?_) (fun i => ?_) (fun i => ?_) (fun i => ?_) ?_ ?_ ?_
  all_goals (simp only [MemV.upd, cntV])
  · rw [if_neg (by omega), if_neg (by omega), if_neg (by omega)]
  · rw [if_neg (by omega), if_neg (by omega), if_neg (by omega)]
  · rw [if_neg (by omega), if_neg (by omega), if_neg (by omega)]
  · rw [if_neg (by omega), if_neg (by omega), if_neg (by omega)]
  · rw [if_neg (by omega), if_neg (by omega), if_neg (by omega)]
  · rw [if_neg (by omega), if_neg (by omega), if_neg (by omega)]
  · rw [if_neg (by omega), if_neg (by omega), if_neg (by omega)]
  · rw [if_neg (by omega), if_neg (by omega)]
    by_cases h : i = n
    · rw [if_pos (by omega), if_pos h]; rfl
    · rw [if_neg (by omega), if_neg h]
  · rw [if_neg (by omega)]
    by_cases h : i = n
    · rw [if_pos (by omega), if_pos h]; rfl
    · rw [if_neg (by omega), if_neg h, if_neg (by omega)]
  · by_cases h : i = n
    · rw [if_pos (by omega), if_pos h]; simp [natU]
    · rw [if_neg (by omega), if_neg h, if_neg (by omega), if_neg (by omega)]
  · rw [if_neg (by omega), if_neg (by omega), if_neg (by omega)]
  · rw [if_neg (by omega), if_neg (by omega), if_neg (by omega)]
  · rw [if_neg (by omega), if_neg (by omega), if_neg (by omega)]
  · rw [if_neg (by omega), if_neg (by omega), if_neg (by omega)]
  · rw [if_neg (by omega), if_neg (by omega), if_neg (by omega)]

theorem upd_int (v : MemV) (n : Nat) (z : Int) (hn : n < 32) : v.upd (85 + n) (.int .i16 z) = intV v n z := by
  refine mem_ext ?_ ?_ ?_ ?_ ?_ (fun i => ?_) (fun i => ?_) (fun i => ?_) (fun i => ?_) (fun i => ?_) (fun i => ?_) (fun i => ?_) ?_ ?_ ?_
  all_goals (simp only [MemV.upd, intV])
  · rw [if_neg (by omega)]
  · rw [if_neg (by omega)]
  · rw [if_neg (by omega)]
  · rw [if_neg (by omega)]
  · rw [if_neg (by omega)]
  · rw [if_neg (by omega)]
  · rw [if_neg (by omega)]
  · rw [if_neg (by omega)]
  · rw [if_neg (by omega)]
  · rw [if_neg (by omega)]
  · by_cases h : i = n
    · rw [if_pos (by omega), if_pos h]; rfl
    · rw [if_neg (by omega), if_neg h]
  · rw [if_neg (by omega)]
  · rw [if_neg (by omega)]
  · rw [if_neg (by omega)]
  · rw [if_neg (by omega)]

theorem upd_rea (v : MemV) (n x : Nat) (hn : n < 16) : v.upd (117 + n) (.float .f64 x) = reaV v n x := by
  refine mem_ext ?_ ?_ ?_ ?_ ?_ (fun i => ?_) (fun i => ?_) (fun i => ?_) (fun i => ?_) (fun i => ?_) (fun i => ?_) (fun i => ?_) ?_ ?_ ?_
  all_goals (simp only [MemV.upd, reaV])
  · rw [if_neg (by omega)]
  · rw [if_neg (by omega)]
  · rw [if_neg (by omega)]
  · rw [if_neg (by omega)]
  · rw [if_neg (by omega)]
  · rw [if_neg (by omega)]
  · rw [if_neg (by omega)]
  · rw [if_neg (by omega)]
  · rw [if_neg (by omega)]
  · rw [if_neg (by omega)]
  · rw [if_neg (by omega)]
  · by_cases h : i = n
    · rw [if_pos (by omega), if_pos h]; rfl
    · rw [if_neg (by omega), if_neg h]
  · rw [if_neg (by omega)]
  · rw [if_neg (by omega)]
  · rw [if_neg (by omega)]

theorem tim_ok {v : MemV} {n c : Nat} {d : Bool} (hv : v.Ok) (hc : c < 65536) : (timV v n c d).Ok := by
  refine ⟨hv.x, hv.y, hv.m, hv.s, hv.e, fun i => ?_, hv.cC, hv.d1, hv.d2, hv.r, hv.time⟩
  simp only [timV]
  split
  · exact hc
  · exact hv.tC i
theorem cnt_ok {v : MemV} {n c : Nat} {d l : Bool} (hv : v.Ok) (hc : c < 65536) : (cntV v n c d l).Ok := by
  refine ⟨hv.x, hv.y, hv.m, hv.s, hv.e, hv.tC, fun i => ?_, hv.d1, hv.d2, hv.r, hv.time⟩
  simp only [cntV]
  split
  · exact hc
  · exact hv.cC i
theorem int_okV {v : MemV} {n : Nat} {z : Int} (hv : v.Ok) (h1 : -32768 ≤ z) (h2 : z ≤ 32767) : (intV v n z).Ok := by
  refine ⟨hv.x, hv.y, hv.m, hv.s, hv.e, hv.tC, hv.cC, fun i => ?_, fun i => ?_, hv.r, hv.time⟩
  all_goals (simp only [intV]; split)
  · exact h1
  · exact hv.d1 i
  · exact h2
  · exact hv.d2 i
theorem rea_ok {v : MemV} {n x : Nat} (hv : v.Ok) (h : x < 2 ^ 64) : (reaV v n x).Ok := by
  refine ⟨hv.x, hv.y, hv.m, hv.s, hv.e, hv.tC, hv.cC, hv.d1, hv.d2, fun i => ?_, hv.time⟩
  simp only [reaV]
  split
  · exact h
  · exact hv.r i

/-- A bit that is put on is that bit. -/
theorem pb_or {v : MemV} {k n p : Int} (h : okB k n p = true) (h1 : 1 ≤ k) (h5 : k ≤ 5) : pbV v k n true = orV v k.toNat n.toNat := by
  have hn : 0 ≤ n ∧ n < sizeZ k := by
    unfold okB at h
    rw [if_neg (by omega), if_neg (by omega), if_neg (by omega)] at h
    have := of_decide_eq_true h
    exact ⟨this.1, this.2.1⟩
  have hk : k = 1 ∨ k = 2 ∨ k = 3 ∨ k = 4 ∨ k = 5 := by omega
  have hz : atZ k n = n := by
    have h2 : 0 < sizeZ k := by omega
    have h3 : szR k = sizeZ k := by unfold szR; rw [if_neg (by omega)]
    unfold atZ
    rw [h3, if_neg (by omega)]
    exact Int.emod_eq_of_lt hn.1 hn.2
  rcases hk with rfl | rfl | rfl | rfl | rfl <;> (simp only [pbV, putV, orV, hz, turn_or]; rfl)

theorem pb_ok {v : MemV} {k n : Int} (hv : v.Ok) : (pbV v k n true).Ok := by
  unfold pbV
  split
  · rename_i hk
    subst hk
    have hl : (atZ 1 n).toNat < 32 := by show (n % 32).toNat < 32; omega
    exact ⟨turn_small (s := 32) hv.x hl true, hv.y, hv.m, hv.s, hv.e, hv.tC, hv.cC, hv.d1, hv.d2, hv.r, hv.time⟩
  · unfold putV
    split
    · rename_i hk
      subst hk
      have hl : (atZ 2 n).toNat < 32 := by show (n % 32).toNat < 32; omega
      exact ⟨hv.x, turn_small (s := 32) hv.y hl true, hv.m, hv.s, hv.e, hv.tC, hv.cC, hv.d1, hv.d2, hv.r, hv.time⟩
    split
    · rename_i hk
      subst hk
      have hl : (atZ 3 n).toNat < 64 := by show (n % 64).toNat < 64; omega
      exact ⟨hv.x, hv.y, turn_small (s := 64) hv.m hl true, hv.s, hv.e, hv.tC, hv.cC, hv.d1, hv.d2, hv.r, hv.time⟩
    split
    · rename_i hk
      subst hk
      have hl : (atZ 4 n).toNat < 16 := by show (n % 16).toNat < 16; omega
      exact ⟨hv.x, hv.y, hv.m, turn_small (s := 16) hv.s hl true, hv.e, hv.tC, hv.cC, hv.d1, hv.d2, hv.r, hv.time⟩
    split
    · rename_i hk
      subst hk
      have hl : (atZ 5 n).toNat < 32 := by show (n % 32).toNat < 32; omega
      exact ⟨hv.x, hv.y, hv.m, hv.s, turn_small (s := 32) hv.e hl true, hv.tC, hv.cC, hv.d1, hv.d2, hv.r, hv.time⟩
    · exact hv

theorem pb_none {v : MemV} {k n : Int} (h : k < 1 ∨ 5 < k) : pbV v k n true = v := by
  unfold pbV putV
  rw [if_neg (by omega), if_neg (by omega), if_neg (by omega), if_neg (by omega), if_neg (by omega)]

end Go.Proofs.YtdhoimjkgicneacGreatDoor
