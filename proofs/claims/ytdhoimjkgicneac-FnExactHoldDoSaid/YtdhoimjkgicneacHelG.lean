/- Bytes owned within an interval of blocks; marks over them. -/
import Derived.Test.YtdhoimjkgicneacHelF
import Derived.Test.YtdhoimjkgicneacHolE
namespace Go.Proofs.Ytdhoimjkgicneac
open Go Go.RowKit

/-- Bytes owned by blocks of an interval. -/
def OwnI (lo hi : Nat) (v : Value) (xs : List Nat) (w : World) : Prop := Own lo v xs w ∧ ∀ g, v.ownBlock = some g → g < hi

theorem OwnI.of {lo : Nat} {v : Value} {xs : List Nat} {w : World} (h : Own lo v xs w) : OwnI lo w.heap.size v xs w := ⟨h, fun g hg => (World.ownsRow.lt h g hg).2⟩
theorem OwnI.at {lo hi : Nat} {v : Value} {xs : List Nat} {w : World} (h : OwnI lo hi v xs w) : BytesAt v xs w := h.1.at
theorem OwnI.below {lo hi B : Nat} {v : Value} {xs : List Nat} {w w' : World} (h : OwnI lo hi v xs w) (hb : Below B w w') (hB : hi ≤ B) : OwnI lo hi v xs w' :=
  ⟨h.1.kept fun g hg => hb.block g (Nat.lt_of_lt_of_le (h.2 g hg) hB), h.2⟩
theorem OwnI.touch {p : Nat → Prop} {lo hi : Nat} {v : Value} {xs : List Nat} {w w' : World} (h : OwnI lo hi v xs w) (ht : Touch p w w') (hp : ∀ g, lo ≤ g → g < hi → ¬ p g) : OwnI lo hi v xs w' :=
  ⟨h.1.touch ht fun g h1 _ h3 => hp g h1 (h.2 g h3), h.2⟩
theorem OwnI.mono {lo hi lo' hi' : Nat} {v : Value} {xs : List Nat} {w : World} (h : OwnI lo hi v xs w) (h1 : lo' ≤ lo) (h2 : hi ≤ hi') : OwnI lo' hi' v xs w := ⟨h.1.mono h1, fun g hg => Nat.lt_of_lt_of_le (h.2 g hg) h2⟩

/-- Blocks of an interval. -/
def within (lo hi : Nat) (b : Nat) : Prop := lo ≤ b ∧ b < hi

theorem OwnI.far {lo hi l h : Nat} {v : Value} {xs : List Nat} {w w' : World} (o : OwnI lo hi v xs w) (ht : Touch (within l h) w w') (hp : hi ≤ l ∨ h ≤ lo) : OwnI lo hi v xs w' :=
  o.touch ht fun g h1 h2 h3 => by obtain ⟨h4, h5⟩ := h3; omega
theorem Touch.low {l h B : Nat} {w w' : World} (ht : Touch (within l h) w w') (hB : B ≤ w.heap.size) (hl : B ≤ l) : Below B w w' := ht.below hB fun k hk h => by obtain ⟨h4, h5⟩ := h; omega

theorem mark_bytesI (lo hi : Nat) (v : Value) (xs : List Nat) (k : Nat) (w : World) (h : OwnI lo hi v xs w) (hx : xs.length ≤ 100000000) (hk : k ≤ 100000000000) :
    Calls Try.prog 30 #[v, .int .i64 k] w fun e w' => e = .returned (.int .i64 ((k + xs.length : Nat) : Int)) ∧ OwnI lo hi v (marks k xs.length) w' ∧ Touch (within lo hi) w w' :=
  (mark_bytesT lo v xs k w h.1 hx hk).mono fun _ _ ⟨h1, h2, h3⟩ => ⟨h1, ⟨h2, h.2⟩, h3.mono fun g _ hg => ⟨(World.ownsRow.lt h.1 g hg).1, h.2 g hg⟩⟩

theorem mark_romI (lo hi : Nat) (m t m' t' : Int) (d d' : Value) (xs ys : List Nat) (k : Nat) (w : World) (h : OwnI lo hi d xs w) (h' : OwnI lo hi d' ys w) (hs : ∀ g, d.ownBlock = some g → d'.ownBlock ≠ some g) (hx : xs.length ≤ 100000000) (hy : ys.length ≤ 100000000) (hk : k ≤ 1000000000) :
    Calls Try.prog 17 #[.agg #[.int .u8 m, .int .u8 t, d, .int .u8 m', .int .u8 t', d'], .int .i64 k] w fun e w' => e = .returned (.int .i64 ((k + xs.length + ys.length : Nat) : Int)) ∧ OwnI lo hi d (marks k xs.length) w' ∧ OwnI lo hi d' (marks (k + xs.length) ys.length) w' ∧ Touch (within lo hi) w w' :=
  (mark_rom lo m t m' t' d d' xs ys k w h.1 h'.1 hs hx hy hk).mono fun _ _ ⟨h1, h2, h3, h4⟩ => ⟨h1, ⟨h2, h.2⟩, ⟨h3, h'.2⟩, h4.mono fun g _ hg => by
    rcases hg with hg | hg
    · exact ⟨(World.ownsRow.lt h.1 g hg).1, h.2 g hg⟩
    · exact ⟨(World.ownsRow.lt h'.1 g hg).1, h'.2 g hg⟩⟩

theorem now_own {B : Nat} {r : Ro} {u : Value} {w : World} (h : NowAt B r u w) : ∃ d, u = .tuple #[d, .bool r.now.isSome] ∧ OwnI B w.heap.size d (r.now.getD []) w := by
  obtain ⟨d, q, rfl, ⟨xs, h1, rfl, h2⟩ | ⟨h1, rfl, rfl⟩⟩ := h
  · exact ⟨d, by rw [h1]; rfl, by rw [h1]; exact OwnI.of h2⟩
  · exact ⟨_, by rw [h1]; rfl, by rw [h1]; exact OwnI.of (own_nil _ _)⟩

theorem now_len {r : Ro} (h : RoOk r) : (r.now.getD []).length ≤ 2000000 := by
  unfold Ro.now
  split
  · exact h.ad.len
  split
  · exact h.bd.len
  · simp

end Go.Proofs.Ytdhoimjkgicneac
