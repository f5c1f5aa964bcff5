/- The program's HoldPlan. -/
import Derived.Test.YtdhoimjkgicneacHolM
namespace Go.Proofs.Ytdhoimjkgicneac
open Go Go.RowKit

theorem new_cells {w : World} {cs : Array Value} {t : TypeId} {l : List Value} (h : cs.toList = l) : ∀ j u, l[j]? = some u → (w.alloc (.cells cs t)).cell? ⟨w.heap.size, j, none⟩ = some u := by
  intro j u hj
  have hs : j < cs.size := by
    have := (List.getElem?_eq_some_iff.1 hj).1
    rw [← h] at this
    simpa using this
  have : cs[j]? = some u := by
    rw [← h] at hj
    simpa using hj
  simp [this]

theorem plan_take (t : Int) (xs : List Nat) {k x : Nat} (hx : xs[k]? = some x) (pre : List Wr) : pre ++ puts t (xs.take (k + 1)) = (pre ++ puts t (xs.take k)) ++ [⟨4, t, x⟩] := by
  rw [List.take_add_one, hx]
  simp [puts]

/-- A byte of a slice that is not empty. -/
theorem BytesAt.get {a : Option Addr} {cap : Nat} {xs : List Nat} {w w' : World} (h : BytesAt (.slice a xs.length cap) xs w) (hb : Below w.heap.size w w') {k : Nat} (hk : k < xs.length) : ∃ b off x, a = some ⟨b, off, none⟩ ∧ xs[k]? = some x ∧ w'.cell? ⟨b, off + k, none⟩ = some (.int .u8 (x : Int)) := by
  rcases h with ⟨b, off, cap', e, hz, hc, he⟩ | ⟨rfl, e⟩
  · injection e with e1 _ _
    exact ⟨b, off, xs[k], e1, List.getElem?_eq_getElem hk, (hb.cell (p := ⟨b, off + k, none⟩) hz).trans (he k _ (List.getElem?_eq_getElem hk))⟩
  · simp at hk

/-- What is written first. -/
def pre (t : Int) : List Wr := [⟨1, t, 0⟩, ⟨3, t, 0⟩]

/-- What is answered of a plan. -/
def PlanAt (B : Nat) (r : Ro) (xs : List Nat) (v : Value) (w : World) : Prop := ∃ u q, v = .tuple #[u, .bool q] ∧ ((xs.length ≤ 20100 ∧ q = true ∧ OwnW B u (r.plan xs) w) ∨ (¬ xs.length ≤ 20100 ∧ q = false ∧ u = .slice none 0 0))

set_option maxRecDepth 100000 in
set_option maxHeartbeats 3200000 in
theorem plan_impl (v d : Value) (r : Ro) (xs : List Nat) (w : World) (h : RomAt v r w) (hd : BytesAt d xs w) (hf : Few xs) :
    Calls Try.prog 34 #[v, d] w fun e w' => ∃ u, e = .returned u ∧ PlanAt w.heap.size r xs u w' ∧ Below w.heap.size w w' := by
  have HR : Hid (RomAt v r w) := h
  have HD : Hid (BytesAt d xs w) := hd
  have hfl := hf.len
  have HF : Hid (∀ x ∈ xs, x ≤ 255) := hf.le
  obtain ⟨ok, da, db, rfl, ha, hb⟩ := h
  obtain ⟨aa, ca, rfl⟩ := ha.len
  obtain ⟨ab, cb, rfl⟩ := hb.len
  obtain ⟨ad, cd, rfl⟩ := hd.len
  clear ha hb hd ok hf
  simp only [romV] at HR ⊢
  by_cases hlen : xs.length ≤ 20100
  · have hlen' : (xs.length : Int) ≤ 20100 := by omega
    obtain ⟨i0, hi, hz0, hz1, hz2⟩ := info_parts info_write
    have b0 : Below w.heap.size w (w.alloc (.cells #[.int .u8 (r.a.mark : Int), .int .u8 (r.a.turn : Int), .slice aa r.a.data.length ca, .int .u8 (r.b.mark : Int), .int .u8 (r.b.turn : Int), .slice ab r.b.data.length cb] 32)) := (Below.refl _ _).alloc (Nat.le_refl _) _
    go_enter Try.func34, Try.ntmps34
    go_wp2_with fail
    refine (slot_impl _ r _ (HR.out.below b0 (Nat.le_refl _))).mono ?_
    rintro e w1 ⟨rfl, b1⟩
    have X1 : Hid (RomBox w.heap.size 0 r (.slice aa r.a.data.length ca) (.slice ab r.b.data.length cb) w1) := (box_new r _ _ w _).below b1 (by simp)
    have B1 : Hid (Below w.heap.size w w1) := b0.trans (b1.mono (by simp))
    have s1 : w.heap.size < w1.heap.size := X1.out.z
    have c0 := X1.out.c0
    have c1 := X1.out.c1
    have c2 := X1.out.c2
    have c3 := X1.out.c3
    have c4 := X1.out.c4
    have c5 := X1.out.c5
    simp only [Nat.zero_add] at c1 c2 c3 c4 c5
    clear b0 b1
    go_wp2_with fail
    refine (to_any _ r w1 (HR.out.below B1.out (Nat.le_refl _))).mono ?_
    rintro e w2 ⟨rfl, b2⟩
    have B2 : Hid (Below w.heap.size w w2) := B1.out.trans (b2.mono (by omega))
    have s2 : w.heap.size < w2.heap.size := by have := b2.size; omega
    clear b2 c0 c1 c2 c3 c4 c5 X1 B1 s1
    go_wp2_with (at_make; refine wpList_make_own _ rfl _ _ 43 rfl w.heap.size 35 i0 (.agg #[.int .i64 0, .int .i64 0, .int .u8 0]) 3 Try.underlying43 hi hz0 hz1 _ _ _ (xs.length + 5) rfl rfl (by simp) (by rw [hz2]; omega) (by unfold maxLen; omega) (by omega) ?_)
    intro w3 o3 g3
    have H3 : Hid (OwnW w.heap.size (.slice (some ⟨w2.heap.size, 0, none⟩) 0 (xs.length + 5)) [] w3 ∧ Below w.heap.size w w3) := ⟨o3, B2.out.trans (grown_below g3 (by omega) (by simp))⟩
    have s3 : w.heap.size < w3.heap.size := by have := g3.size; omega
    clear o3 g3 B2
    go_wp2_with (at_builtin; refine list_appW w.heap.size (xs := []) (ys := [⟨1, r.to, 0⟩, ⟨3, r.to, 0⟩]) rfl (.tmp 27) (.tmp 32) rfl rfl w3.heap.size _ rfl (World.ownsRow.alloc H3.out.1 _) (new_cells rfl) (by simp) (by simp; omega) ?_)
    intro v4 w4 o4 g4
    have H4 : Hid (OwnW w.heap.size v4 (pre r.to ++ puts r.to (xs.take 0)) w4 ∧ Below w.heap.size w w4) := by
      refine ⟨by simpa [puts, pre] using o4, (H3.out.2.alloc (by omega) _).trans (grown_below g4 (by simp; omega) ?_)⟩
      intro g hg
      simp [Value.ownBlock] at hg
      omega
    have s4 : w.heap.size < w4.heap.size := by have := g4.size; simp at this; omega
    obtain ⟨a4, c4, rfl⟩ := ownW_size o4
    clear o4 g4 H3
    go_wp2_with fail
    go_loopw [9, 36] (fun v i wr => ∃ k : Nat, k ≤ xs.length ∧ i = .int .i64 k ∧ OwnW w.heap.size v (pre r.to ++ puts r.to (xs.take k)) wr ∧ Below w.heap.size w wr) (fun _ i _ => xs.length - (intOf i).toNat)
    case atStart => exact ⟨0, by omega, rfl, H4.out.1, H4.out.2⟩
    case round =>
      clear H4
      obtain ⟨k, hk, rfl, o, b⟩ := hrel
      have H5 : Hid (OwnW w.heap.size u9 (pre r.to ++ puts r.to (xs.take k)) wr ∧ Below w.heap.size w wr) := ⟨o, b⟩
      have s5 : w.heap.size ≤ wr.heap.size := b.size
      clear o b
      by_cases hkl : k < xs.length
      · obtain ⟨bb, off, x, rfl, hx, cx⟩ := HD.out.get H5.out.2 hkl
        have HX : Hid (xs[k]? = some x) := hx
        clear hx
        have hn5 : (pre r.to ++ puts r.to (xs.take k)).length + 1 ≤ 8000000 := by simp [pre, puts]; omega
        go_wp2_with (at_builtin; refine list_appW w.heap.size (xs := pre r.to ++ puts r.to (xs.take k)) (ys := [⟨4, r.to, x⟩]) rfl (.tmp 40) (.tmp 44) rfl rfl wr.heap.size _ rfl (World.ownsRow.alloc H5.out.1 _) (new_cells rfl) hn5 (by simp; omega) ?_)
        intro v6 w6 o6 g6
        have H6 : Hid (OwnW w.heap.size v6 (pre r.to ++ puts r.to (xs.take (k + 1))) w6 ∧ Below w.heap.size w w6) := by
          refine ⟨by rw [plan_take r.to xs HX.out]; exact o6, (H5.out.2.alloc s5 _).trans (grown_below g6 (by simp; omega) ?_)⟩
          intro g hg
          exact (H5.out.1.lt hg).1
        clear o6 g6 cx
        go_wp2_with fail
        go_roundw
        case rel =>
          refine ⟨_, _, _, _, _, _, _, _, _, _, _, _, _, ⟨k + 1, by omega, ?_, ?_, ?_⟩, rfl⟩
          · go_num
          · exact H6.out.1
          · exact H6.out.2
        case measure => simp [intOf]; omega
      · have ek : k = xs.length := by omega
        subst ek
        have H5' : Hid (OwnW w.heap.size u9 (pre r.to ++ puts r.to xs) wr ∧ Below w.heap.size w wr) := by
          have := H5.out
          rw [List.take_length] at this
          exact this
        clear H5
        have hn5 : (pre r.to ++ puts r.to xs).length + 2 ≤ 8000000 := by simp [pre, puts]; omega
        go_wp2_with (at_builtin; refine list_appW w.heap.size (xs := pre r.to ++ puts r.to xs) (ys := [⟨2, r.to, r.turnTo⟩, ⟨1, r.to, 165⟩]) rfl (.tmp 47) (.tmp 53) rfl rfl wr.heap.size _ rfl (World.ownsRow.alloc H5'.out.1 _) (new_cells rfl) hn5 (by simp; omega) ?_)
        intro v6 w6 o6 g6
        have H6 : Hid (OwnW w.heap.size v6 (pre r.to ++ puts r.to xs ++ [⟨2, r.to, r.turnTo⟩, ⟨1, r.to, 165⟩]) w6 ∧ Below w.heap.size w w6) := by
          refine ⟨o6, (H5'.out.2.alloc s5 _).trans (grown_below g6 (by simp; omega) ?_)⟩
          intro g hg
          exact (H5'.out.1.lt hg).1
        have s6 : w.heap.size ≤ w6.heap.size := H6.out.2.size
        clear o6 g6
        have hn6 : (pre r.to ++ puts r.to xs ++ ([⟨2, r.to, r.turnTo⟩, ⟨1, r.to, 165⟩] : List Wr)).length + 1 ≤ 8000000 := by simp [pre, puts]; omega
        by_cases hs : 0 ≤ r.slotNow
        · have ET : Hid (r.plan xs = pre r.to ++ puts r.to xs ++ [⟨2, r.to, r.turnTo⟩, ⟨1, r.to, 165⟩] ++ [⟨1, r.slotNow, 0⟩]) := (show r.plan xs = _ by simp [Ro.plan, Ro.tail, hs, pre])
          go_wp2_with (at_builtin; refine list_appW w.heap.size (xs := pre r.to ++ puts r.to xs ++ [⟨2, r.to, r.turnTo⟩, ⟨1, r.to, 165⟩]) (ys := [⟨1, r.slotNow, 0⟩]) rfl (.tmp 57) (.tmp 60) rfl rfl w6.heap.size _ rfl (World.ownsRow.alloc H6.out.1 _) (new_cells rfl) hn6 (by simp; omega) ?_)
          intro v7 w7 o7 g7
          have H7 : Hid (OwnW w.heap.size v7 (r.plan xs) w7 ∧ Below w.heap.size w w7) := by
            refine ⟨by rw [ET.out]; simp only [List.append_assoc, List.cons_append, List.nil_append]; exact o7, (H6.out.2.alloc s6 _).trans (grown_below g7 (by simp; omega) ?_)⟩
            intro g hg
            exact (H6.out.1.lt hg).1
          clear o7 g7
          go_wp2_with fail
          go_ret2
          exact ⟨_, rfl, ⟨_, _, rfl, Or.inl ⟨hlen, rfl, H7.out.1⟩⟩, H7.out.2⟩
        · have ET : Hid (r.plan xs = pre r.to ++ puts r.to xs ++ [⟨2, r.to, r.turnTo⟩, ⟨1, r.to, 165⟩]) := (show r.plan xs = _ by simp [Ro.plan, Ro.tail, hs, pre])
          go_wp2_with fail
          go_ret2
          exact ⟨_, rfl, ⟨_, _, rfl, Or.inl ⟨hlen, rfl, by rw [ET.out]; exact H6.out.1⟩⟩, H6.out.2⟩
  · have hlen' : (20100 : Int) < (xs.length : Int) := by omega
    have b0 : Hid (Below w.heap.size w (w.alloc (.cells #[.int .u8 (r.a.mark : Int), .int .u8 (r.a.turn : Int), .slice aa r.a.data.length ca, .int .u8 (r.b.mark : Int), .int .u8 (r.b.turn : Int), .slice ab r.b.data.length cb] 32))) := (Below.refl _ _).alloc (Nat.le_refl _) _
    go_enter Try.func34, Try.ntmps34
    go_wp2_with fail
    go_ret2
    exact ⟨_, rfl, ⟨_, _, rfl, Or.inr ⟨hlen, rfl, rfl⟩⟩, b0.out⟩

end Go.Proofs.Ytdhoimjkgicneac
