/- Writes in memory: a slice that owns them. -/
import Derived.Test.YtdhoimjkgicneacHolK
namespace Go.Proofs.Ytdhoimjkgicneac
open Go Go.RowKit

/-- Writes as values. -/
def writesV : List Wr → List Value
  | [] => []
  | x :: ws => .int .i64 x.kind :: .int .i64 x.slot :: .int .u8 (x.byte : Int) :: writesV ws
theorem writesV_append : ∀ (xs ys : List Wr), writesV (xs ++ ys) = writesV xs ++ writesV ys
  | [], _ => rfl
  | x :: xs, ys => by simp [writesV, writesV_append xs ys]
theorem writesV_len : ∀ (xs : List Wr), (writesV xs).length = xs.length * 3
  | [] => rfl
  | x :: xs => by simp [writesV, writesV_len xs]; omega
theorem writesV_one : ∀ (xs : List Wr), ∀ u ∈ writesV xs, u.oneCell' = true
  | [], u, hu => by simp [writesV] at hu
  | x :: xs, u, hu => by
    simp only [writesV, List.mem_cons] at hu
    rcases hu with rfl | rfl | rfl | hu
    · rfl
    · rfl
    · rfl
    · exact writesV_one xs u hu
theorem writesV_get : ∀ (xs : List Wr) (i : Nat) (x : Wr), xs[i]? = some x → (writesV xs)[i * 3]? = some (.int .i64 x.kind) ∧ (writesV xs)[i * 3 + 1]? = some (.int .i64 x.slot) ∧ (writesV xs)[i * 3 + 2]? = some (.int .u8 (x.byte : Int))
  | [], i, x, h => by simp at h
  | y :: ys, 0, x, h => by
    simp at h
    subst h
    simp [writesV]
  | y :: ys, i + 1, x, h => by
    have h' : ys[i]? = some x := by simpa using h
    have := writesV_get ys i x h'
    have e : (i + 1) * 3 = i * 3 + 3 := by omega
    rw [e]
    simpa [writesV] using this

/-- A slice that owns writes. -/
abbrev OwnW (base : Nat) (v : Value) (ws : List Wr) (w : World) : Prop := w.ownsRow base 35 3 v ws.length (writesV ws)

theorem OwnW.lt {base : Nat} {v : Value} {ws : List Wr} {w : World} (h : OwnW base v ws w) {k : Nat} (hk : v.ownBlock = some k) : base ≤ k ∧ k < w.heap.size := World.ownsRow.lt h k hk

theorem OwnW.at {base : Nat} {v : Value} {ws : List Wr} {w : World} (h : OwnW base v ws w) : WritesAt v ws w := by
  rcases h.2 with ⟨rfl, h0⟩ | ⟨g, cap, cur, rfl, hb, hg, hn, hm, hs, ht⟩
  · exact Or.inr ⟨List.eq_nil_of_length_eq_zero h0, none, 0, rfl⟩
  · refine Or.inl ⟨g, 0, cap, rfl, (Array.getElem?_eq_some_iff.1 hg).1, hn, fun i x hx => ?_⟩
    have hi : i < ws.length := (List.getElem?_eq_some_iff.1 hx).1
    obtain ⟨e0, e1, e2⟩ := writesV_get ws i x hx
    refine ⟨?_, ?_, ?_⟩
    · rw [Nat.zero_add, World.ownsRow.cellAt (cap := cap) h _ (by omega), e0]
    · rw [Nat.zero_add, World.ownsRow.cellAt (cap := cap) h _ (by omega), e1]
    · rw [Nat.zero_add, World.ownsRow.cellAt (cap := cap) h _ (by omega), e2]

theorem ownW_size {base : Nat} {v : Value} {ws : List Wr} {w : World} (h : OwnW base v ws w) : ∃ (a : Option Addr) (cap : Nat), v = .slice a ws.length cap := WritesIn.len h.at

theorem OwnW.kept {base : Nat} {v : Value} {ws : List Wr} {w w' : World} (h : OwnW base v ws w) (hk : ∀ g, v.ownBlock = some g → w'.heap[g]? = w.heap[g]?) : OwnW base v ws w' := by
  refine ⟨h.1, ?_⟩
  rcases h.2 with hn | ⟨g, cap, cur, rfl, hb, hg, rest⟩
  · exact .inl hn
  · exact .inr ⟨g, cap, cur, rfl, hb, (hk g rfl).trans hg, rest⟩
theorem OwnW.below {base B : Nat} {v : Value} {ws : List Wr} {w w' : World} (h : OwnW base v ws w) (hb : Below B w w') (hB : w.heap.size ≤ B) : OwnW base v ws w' :=
  h.kept fun g hg => hb.block g (by have := h.lt hg; omega)
theorem OwnW.mono {base base' : Nat} {v : Value} {ws : List Wr} {w : World} (h : OwnW base v ws w) (hb : base' ≤ base) : OwnW base' v ws w := by
  refine ⟨h.1, ?_⟩
  rcases h.2 with hn | ⟨g, cap, cur, rfl, hg, rest⟩
  · exact .inl hn
  · exact .inr ⟨g, cap, cur, rfl, Nat.le_trans hb hg, rest⟩

theorem info_write : (Try.prog.info? 35).map (fun i => (i.zero, i.size, i.bytes)) = some (some (.agg #[.int .i64 0, .int .i64 0, .int .u8 0]), 3, 24) := by kernel_rfl

/-- Writes behind writes that are owned. -/
theorem list_appW (base : Nat) {v : Value} {xs ys : List Wr} {w : World} {ops : Array Oper} {rest : List Oper} {o : Oper} {a : Act} {Q : Exit → Act → World → Prop} (hgd : o.guard = none) (p x : Operand)
    (ho : o.op = .call { callee := .builtin .append, args := #[p, x], argTypes := #[43, 43] }) (hp : a.eval p = v) (g c : Nat) (hx : a.eval x = .slice (some ⟨g, 0, none⟩) ys.length c)
    (h : OwnW base v xs w) (hs : ∀ j u, (writesV ys)[j]? = some u → w.cell? ⟨g, j, none⟩ = some u) (hl : xs.length + ys.length ≤ 8000000) (hb : base ≤ w.heap.size)
    (hK : ∀ v' w', OwnW base v' (xs ++ ys) w' → w.grownBy w' v.ownBlock → wpList Try.prog ops Q rest (a.put o.dst v') w') :
    wpList Try.prog ops Q (o :: rest) a w := by
  refine wpList_plain hgd fun K hK' => ?_
  obtain ⟨i, hi, hz, h1, h2⟩ := info_parts info_write
  obtain ⟨v', w', hr, h3, h4, -, -⟩ := run_append_own_at (P := Try.prog) w base 43 o.type 35 i (.agg #[.int .i64 0, .int .i64 0, .int .u8 0]) 3 24 Try.underlying43 hi hz h1 h2 rfl (by decide) v xs.length (writesV xs) h ⟨g, 0, none⟩ ys.length c (writesV ys) (writesV_len ys) (fun j u hj => by rw [addr_add, Nat.zero_add]; exact hs j u hj) (writesV_one ys) (by unfold maxLen; omega) (by omega) hb
  unfold Oper.wp execOp
  simp only [ho, resolve, invoke, builtin, Sem.run_bind, Sem.run_pure, Result.andThen_ok, List.map_toArray, List.map_cons, List.map_nil, hp, hx, hr]
  refine hK' _ _ (hK v' w' ?_ h4)
  unfold OwnW
  rw [writesV_append, List.length_append]
  exact h3

set_option maxHeartbeats 800000 in
/-- Where a plan writes, and its turn. -/
theorem to_any (v : Value) (r : Ro) (w : World) (h : RomAt v r w) :
    Calls Try.prog 60 #[v, .int .i64 r.slotNow] w fun e w' => e = .returned (.tuple #[.int .i64 r.to, .int .u8 (r.turnTo : Int)]) ∧ Below w.heap.size w w' := by
  obtain ⟨ok, da, db, rfl, ha, hb⟩ := h
  obtain ⟨aa, ca, rfl⟩ := ha.len
  obtain ⟨ab, cb, rfl⟩ := hb.len
  clear ha hb
  have HB : Hid (Below w.heap.size w (w.alloc (.cells #[.int .u8 (r.a.mark : Int), .int .u8 (r.a.turn : Int), .slice aa r.a.data.length ca, .int .u8 (r.b.mark : Int), .int .u8 (r.b.turn : Int), .slice ab r.b.data.length cb] 32))) := (Below.refl _ _).alloc (Nat.le_refl _) _
  rcases slot_cases r with ⟨h, g⟩ | ⟨h, g⟩ | ⟨h, g, -⟩
  · have E : Hid (r.to = 1 ∧ r.turnTo = (r.a.turn + 1) % 3) := ⟨by simp [Ro.to, h], by simp [Ro.turnTo, h]⟩
    have t := good_turn g
    rw [h]
    clear h g ok
    simp only [romV]
    go_enter Try.func60, Try.ntmps60
    go_wp2_with (go_at_call 57; refine (next_any r.a.turn _ t).mono ?_; rintro e w' ⟨rfl, rfl⟩)
    go_ret2
    exact ⟨by rw [E.out.1, E.out.2]; rfl, HB.out⟩
  · have E : Hid (r.to = 0 ∧ r.turnTo = (r.b.turn + 1) % 3) := ⟨by simp [Ro.to, h], by simp [Ro.turnTo, h]⟩
    have t := good_turn g
    rw [h]
    clear h g ok
    simp only [romV]
    go_enter Try.func60, Try.ntmps60
    go_wp2_with (go_at_call 57; refine (next_any r.b.turn _ t).mono ?_; rintro e w' ⟨rfl, rfl⟩)
    go_ret2
    exact ⟨by rw [E.out.1, E.out.2]; rfl, HB.out⟩
  · have E : Hid (r.to = 0 ∧ r.turnTo = 0) := ⟨by simp [Ro.to, h], by simp [Ro.turnTo, h]⟩
    rw [h]
    clear h g ok
    simp only [romV]
    go_enter Try.func60, Try.ntmps60
    go_wp2_with fail
    go_ret2
    exact ⟨by rw [E.out.1, E.out.2]; rfl, HB.out⟩

end Go.Proofs.Ytdhoimjkgicneac
