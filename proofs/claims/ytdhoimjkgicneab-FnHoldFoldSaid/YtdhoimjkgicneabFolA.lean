/- The law on a plan that is carried out write by write, out of the contracts. -/
import Derived.Test.YtdhoimjkgicneabFolD
import Derived.Test.YtdhoimjkgicneabFolO
namespace Go.Proofs.Ytdhoimjkgicneab
open Go Go.RowKit

theorem load_slice {a : Addr} {v : Value} {w : World} (h : w.cell? a = some v) : (Instr.loadAt 22 (.pointer (some a))).run Try.prog w = .ok v w := by simp [go_sem, h]

theorem op_conv {o : Oper} {a : Act} {w : World} {K : Act → World → Prop} {Q : Exit → Act → World → Prop} {t t2 : TypeId} {p : Operand} {u : Value} (ho : o.op = .convert t t2 p) (he : (convert t t2 (a.eval p)).run Try.prog w = .ok u w) (h : K (a.put o.dst u) w) : o.wp Try.prog a w K Q := by
  have e : (execOp a.eval o).run Try.prog w = .ok (.value u) w := by
    simp only [execOp, ho, Sem.run_bind, he, Result.andThen, Sem.run_pure]
  unfold Oper.wp
  rw [e]
  exact h

theorem held_conv {P : Program} {ops : Array Oper} {Q : Exit → Act → World → Prop} {md : Region.Mode} {S : World → Prop} {fuel : Nat} {ls : Array Bool} {a : Act} {w : World} {i : Nat} {o : Oper} {t t2 : TypeId} {p : Operand} {x v : Value} (hi : ops[i]? = some o) (ho : o.op = .convert t t2 p) (hx : a.eval p = x) (hs : Region.noSelect ops = true) (hf : Region.free md ops ls i = true) (hr : (Region.ready md ops ls).contains i = true)
    (hg : Region.wanted o (yielded ops a.tmps) = true) (hQ : ∀ c a w, Q (.panic c) (a.put o.dst v) w → Q (.panic c) a w) (hv : ∀ w, S w → (convert t t2 x).run P w = .ok v w) (hS : S w)
    (h : wpAnyH P md ops Q S fuel (ls.setIfInBounds i true) (a.put o.dst v) w) : wpAnyH P md ops Q S (fuel + 1) ls a w := by
  refine held_any hi hs hf hr hg hQ (fun w hw => ?_) hS h
  subst hx
  simp only [execOp, ho, Sem.run_bind, hv w hw, Result.andThen, Sem.run_pure]

/-- Bytes that lie in another block than V. -/
def FarAt (V : Nat) (v : Value) (xs : List Nat) (w : World) : Prop := BytesAt v xs w ∧ ∀ a n c, v = .slice (some a) n c → a.block ≠ V

theorem FarAt.below {V B : Nat} {v : Value} {xs : List Nat} {w w' : World} (h : FarAt V v xs w) (hb : Below B w w') (hB : w.heap.size ≤ B) : FarAt V v xs w' := ⟨h.1.below hb hB, h.2⟩
theorem far_own {V base : Nat} {v : Value} {xs : List Nat} {w : World} (h : Own base v xs w) (hV : V < base) : FarAt V v xs w :=
  ⟨h.at, fun a n c e => by subst e; have := (World.ownsRow.lt h a.block rfl).1; omega⟩
theorem far_at {V : Nat} {v : Value} {xs : List Nat} {w : World} (h : BytesAt v xs w) (hV : w.heap.size ≤ V) : FarAt V v xs w := by
  refine ⟨h, fun a n c e => ?_⟩
  rcases h with ⟨b, off, cap, rfl, hz, -, -⟩ | ⟨-, rfl⟩
  · injection e with e1
    injection e1 with e1
    subst e1
    show b ≠ V
    omega
  · injection e with e1
    cases e1
theorem FarAt.blocks {V : Nat} {v : Value} {xs : List Nat} {w w' : World} (h : FarAt V v xs w) (hb : ∀ k, k ≠ V → w'.heap[k]? = w.heap[k]?) (hs : w.heap.size ≤ w'.heap.size) : FarAt V v xs w' := by
  refine ⟨?_, h.2⟩
  obtain ⟨h1, h2⟩ := h
  rcases h1 with ⟨b, off, cap, rfl, hz, hc, he⟩ | h1
  · exact Or.inl ⟨b, off, cap, rfl, by omega, hc, fun i x hx => (World.cell?_of_block (a := ⟨b, off + i, none⟩) (hb b (h2 ⟨b, off, none⟩ _ _ rfl))).trans (he i x hx)⟩
  · exact Or.inr h1

/-- What lies there while the writes are done one by one: the store in block V, what has become of it in the next. -/
structure FolAt (V : Nat) (w0 : World) (r : Ro) (da db pv : Value) (ws : List Wr) (r' : Ro) (xa xb : Value) (wr : World) : Prop where
  box : RomBox V 0 r da db wr
  ok : RoOk r
  ba : FarAt (V + 1) da r.a.data wr
  bb : FarAt (V + 1) db r.b.data wr
  pln : WritesIn V pv ws wr
  box' : RomBox (V + 1) 0 r' xa xb wr
  fr' : ∀ i, wr.frozen? ⟨V + 1, i, none⟩ = false
  ok' : RoOk r'
  xa' : FarAt (V + 1) xa r'.a.data wr
  xb' : FarAt (V + 1) xb r'.b.data wr
  lo : w0.heap.size ≤ V
  bel : Below w0.heap.size w0 wr

theorem FolAt.below {V : Nat} {w0 : World} {r r' : Ro} {da db pv xa xb : Value} {ws : List Wr} {wr w' : World} (h : FolAt V w0 r da db pv ws r' xa xb wr) (hb : Below wr.heap.size wr w') : FolAt V w0 r da db pv ws r' xa xb w' :=
  ⟨h.box.below hb h.box.z, h.ok, h.ba.below hb (Nat.le_refl _), h.bb.below hb (Nat.le_refl _), h.pln.below (hb.mono (by have := h.box.z; omega)), h.box'.below hb h.box'.z, fun i => (hb.frozen (p := ⟨V + 1, i, none⟩) h.box'.z).trans (h.fr' i), h.ok', h.xa'.below hb (Nat.le_refl _), h.xb'.below hb (Nat.le_refl _), h.lo, h.bel.trans (hb.mono h.bel.size)⟩
theorem FolAt.rom {V : Nat} {w0 : World} {r r' : Ro} {da db pv xa xb : Value} {ws : List Wr} {wr : World} (h : FolAt V w0 r da db pv ws r' xa xb wr) : RomAt (romV r da db) r wr := ⟨h.ok, da, db, rfl, h.ba.1, h.bb.1⟩
theorem FolAt.rom' {V : Nat} {w0 : World} {r r' : Ro} {da db pv xa xb : Value} {ws : List Wr} {wr : World} (h : FolAt V w0 r da db pv ws r' xa xb wr) : RomAt (romV r' xa xb) r' wr := ⟨h.ok', xa, xb, rfl, h.xa'.1, h.xb'.1⟩

theorem FolAt.stored {V : Nat} {w0 : World} {r r' r2 : Ro} {da db pv xa xb ya yb : Value} {ws : List Wr} {wr : World} (h : FolAt V w0 r da db pv ws r' xa xb wr) (ok : RoOk r2) (ha : FarAt (V + 1) ya r2.a.data wr) (hb : FarAt (V + 1) yb r2.b.data wr) :
    FolAt V w0 r da db pv ws r2 ya yb ((((((wr.setCell ⟨V + 1, 0, none⟩ (.int .u8 (r2.a.mark : Int))).setCell ⟨V + 1, 1, none⟩ (.int .u8 (r2.a.turn : Int))).setCell ⟨V + 1, 2, none⟩ ya).setCell ⟨V + 1, 3, none⟩ (.int .u8 (r2.b.mark : Int))).setCell ⟨V + 1, 4, none⟩ (.int .u8 (r2.b.turn : Int))).setCell ⟨V + 1, 5, none⟩ yb) := by
  have lo := h.lo
  have bl : ∀ k, k ≠ V + 1 → ((((((wr.setCell ⟨V + 1, 0, none⟩ (.int .u8 (r2.a.mark : Int))).setCell ⟨V + 1, 1, none⟩ (.int .u8 (r2.a.turn : Int))).setCell ⟨V + 1, 2, none⟩ ya).setCell ⟨V + 1, 3, none⟩ (.int .u8 (r2.b.mark : Int))).setCell ⟨V + 1, 4, none⟩ (.int .u8 (r2.b.turn : Int))).setCell ⟨V + 1, 5, none⟩ yb).heap[k]? = wr.heap[k]? := fun k hk => set6_block hk _ _ _ _ _ _
  have hs : wr.heap.size ≤ ((((((wr.setCell ⟨V + 1, 0, none⟩ (.int .u8 (r2.a.mark : Int))).setCell ⟨V + 1, 1, none⟩ (.int .u8 (r2.a.turn : Int))).setCell ⟨V + 1, 2, none⟩ ya).setCell ⟨V + 1, 3, none⟩ (.int .u8 (r2.b.mark : Int))).setCell ⟨V + 1, 4, none⟩ (.int .u8 (r2.b.turn : Int))).setCell ⟨V + 1, 5, none⟩ yb).heap.size := by simp
  exact ⟨h.box.of_block (bl V (by omega)), h.ok, h.ba.blocks bl hs, h.bb.blocks bl hs, h.pln.below (set6_below (Below.refl V wr) (by omega) _ _ _ _ _ _), box_stored h.box', fun i => by simpa using h.fr' i, ok, ha.blocks bl hs, hb.blocks bl hs, h.lo, set6_below h.bel (by omega) _ _ _ _ _ _⟩

def FolRel (V : Nat) (w0 : World) (r : Ro) (da db pv : Value) (ws : List Wr) (m : Nat) (iv : Value) (wr : World) : Prop := ∃ (k : Nat) (xa xb : Value), k ≤ m ∧ iv = .int .i64 (k : Int) ∧ FolAt V w0 r da db pv ws (r.play (ws.take k)) xa xb wr

set_option maxRecDepth 100000 in
set_option maxHeartbeats 6000000 in
theorem fold_short (a0 : Option Addr) (l0 c0 : Nat) (w : World) (h0 : l0 ≤ 1048576) (C0 : CodeAt (.slice a0 l0 c0) w) :
    Calls Try.prog 6 #[.slice a0 l0 c0] w fun e w' => e = .returned (.bool true) ∧ Below w.heap.size w w' := by
  go_enter Try.func6, Try.ntmps6
  go_wp2_with fail
  refine (draw_hplay _ w C0).mono ?_
  rintro e w1 ⟨r, da, db, pv, ws, n, rfl, ok, ba, bb, bp, hby, hwl, n0, n1, b1⟩
  have H1 : Hid (RoOk r ∧ BytesAt da r.a.data w1 ∧ BytesAt db r.b.data w1 ∧ WritesAt pv ws w1 ∧ (∀ x ∈ ws, x.byte ≤ 255) ∧ Below w.heap.size w w1) := ⟨ok, ba, bb, bp, hby, b1⟩
  have s1 : w.heap.size ≤ w1.heap.size := b1.size
  obtain ⟨aa, ca, rfl⟩ := ba.len
  obtain ⟨ab, cb, rfl⟩ := bb.len
  obtain ⟨ap, cp, rfl⟩ := bp.len
  clear ok ba bb bp hby b1 C0
  simp only [romV]
  by_cases h400 : 400 < ws.length
  · have h400' : (400 : Int) < (ws.length : Int) := by omega
    have HB : Hid (Below w.heap.size w (w1.alloc (.cells #[.int .u8 (r.a.mark : Int), .int .u8 (r.a.turn : Int), .slice aa r.a.data.length ca, .int .u8 (r.b.mark : Int), .int .u8 (r.b.turn : Int), .slice ab r.b.data.length cb] 26))) := H1.out.2.2.2.2.2.alloc s1 _
    go_wp2_with fail
    go_ret
    exact ⟨rfl, HB.out⟩
  · have h400' : ¬ (400 : Int) < (ws.length : Int) := by omega
    go_wp2_with fail
    have b2 : Below w1.heap.size w1 ((w1.alloc (.cells #[.int .u8 (r.a.mark : Int), .int .u8 (r.a.turn : Int), .slice aa r.a.data.length ca, .int .u8 (r.b.mark : Int), .int .u8 (r.b.turn : Int), .slice ab r.b.data.length cb] 26)).alloc (.cells #[.int .u8 (r.a.mark : Int), .int .u8 (r.a.turn : Int), .slice aa r.a.data.length ca, .int .u8 (r.b.mark : Int), .int .u8 (r.b.turn : Int), .slice ab r.b.data.length cb] 26)) := ((Below.refl _ _).alloc (Nat.le_refl _) _).alloc (by simp) _
    have I0 : Hid (FolRel w1.heap.size w r (.slice aa r.a.data.length ca) (.slice ab r.b.data.length cb) (.slice ap ws.length cp) ws (min n.toNat ws.length) (.int .i64 0) ((w1.alloc (.cells #[.int .u8 (r.a.mark : Int), .int .u8 (r.a.turn : Int), .slice aa r.a.data.length ca, .int .u8 (r.b.mark : Int), .int .u8 (r.b.turn : Int), .slice ab r.b.data.length cb] 26)).alloc (.cells #[.int .u8 (r.a.mark : Int), .int .u8 (r.a.turn : Int), .slice aa r.a.data.length ca, .int .u8 (r.b.mark : Int), .int .u8 (r.b.turn : Int), .slice ab r.b.data.length cb] 26))) := by
      have fa := (far_at (V := w1.heap.size + 1) H1.out.2.1 (by omega)).below b2 (Nat.le_refl _)
      have fb := (far_at (V := w1.heap.size + 1) H1.out.2.2.1 (by omega)).below b2 (Nat.le_refl _)
      have bx := box_new r (.slice aa r.a.data.length ca) (.slice ab r.b.data.length cb) (w1.alloc (.cells #[.int .u8 (r.a.mark : Int), .int .u8 (r.a.turn : Int), .slice aa r.a.data.length ca, .int .u8 (r.b.mark : Int), .int .u8 (r.b.turn : Int), .slice ab r.b.data.length cb] 26)) 26
      have e1 : (w1.alloc (.cells #[.int .u8 (r.a.mark : Int), .int .u8 (r.a.turn : Int), .slice aa r.a.data.length ca, .int .u8 (r.b.mark : Int), .int .u8 (r.b.turn : Int), .slice ab r.b.data.length cb] 26)).heap.size = w1.heap.size + 1 := by simp
      rw [e1] at bx
      refine ⟨0, (.slice aa r.a.data.length ca), (.slice ab r.b.data.length cb), by omega, rfl, ⟨(box_new r (.slice aa r.a.data.length ca) (.slice ab r.b.data.length cb) w1 26).below ((Below.refl _ _).alloc (Nat.le_refl _) _) (by simp), H1.out.1, fa, fb, WritesIn.below H1.out.2.2.2.1 b2, bx, fun i => ?_, H1.out.1, fa, fb, s1, H1.out.2.2.2.2.2.trans (b2.mono s1)⟩⟩
      rw [← e1]
      exact World.frozen?_alloc_new _ _ _ _
    clear b2
    go_loopw [7] (fun iv wr => FolRel w1.heap.size w r (.slice aa r.a.data.length ca) (.slice ab r.b.data.length cb) (.slice ap ws.length cp) ws (min n.toNat ws.length) iv wr) (fun iv _ => min n.toNat ws.length - (intOf iv).toNat)
    case atStart => exact I0.out
    case round =>
      clear I0
      obtain ⟨k, xa, xb, hk, rfl, hF⟩ := hrel
      by_cases hkn : k < min n.toNat ws.length
      · have hkw : k < ws.length := by omega
        have hkn' : (k : Int) < n := by omega
        obtain ⟨x, hx⟩ : ∃ x, ws[k]? = some x := ⟨_, List.getElem?_eq_getElem hkw⟩
        have hp := hF.pln
        rcases hp with ⟨bb, off, cap', e, hb', hc', he⟩ | ⟨rfl, -⟩
        rotate_left
        · simp at hkw
        injection e with e1 e2 e3
        subst e1 e3
        obtain ⟨p0, p1, p2⟩ := he k x hx
        have HX : Hid (r.play (ws.take (k + 1)) = (r.play (ws.take k)).write x ∧ x.byte ≤ 255) := ⟨play_take r hx, H1.out.2.2.2.2.1 x (List.mem_of_getElem? hx)⟩
        clear he hx e2
        obtain ⟨r', hr'⟩ : ∃ r', r' = r.play (ws.take k) := ⟨_, rfl⟩
        rw [← hr'] at hF HX
        clear hr'
        have HF : Hid (FolAt w1.heap.size w r (.slice aa r.a.data.length ca) (.slice ab r.b.data.length cb) (.slice (some ⟨bb, off, none⟩) ws.length cp) ws r' xa xb wr) := hF
        have zv : w1.heap.size + 1 < wr.heap.size := hF.box'.z
        obtain ⟨ya, ka, rfl⟩ := hF.xa'.1.len
        obtain ⟨yb, kb, rfl⟩ := hF.xb'.1.len
        clear hF
        have hS : wr.drew.cell? ⟨bb, off + k * 3, none⟩ = some (.int .i64 x.kind) ∧ wr.drew.cell? ⟨bb, off + k * 3 + 1, none⟩ = some (.int .i64 x.slot) ∧ wr.drew.cell? ⟨bb, off + k * 3 + 2, none⟩ = some (.int .u8 (x.byte : Int)) := ⟨p0, p1, p2⟩
        have t0 : (0 : Int) ≤ (k : Int) ∧ (k : Int) < (ws.length : Int) := by omega
        have HF0 : Hid (FolAt w1.heap.size w r (.slice aa r.a.data.length ca) (.slice ab r.b.data.length cb) (.slice (some ⟨bb, off, none⟩) ws.length cp) ws r' (.slice ya r'.a.data.length ka) (.slice yb r'.b.data.length kb) wr.drew) := HF.out.below (Below.refl _ _).drew
        go_wp2_with fail
        refine wp_region_held (S := fun w' => w'.cell? ⟨bb, off + k * 3, none⟩ = some (.int .i64 x.kind) ∧ w'.cell? ⟨bb, off + k * 3 + 1, none⟩ = some (.int .i64 x.slot) ∧ w'.cell? ⟨bb, off + k * 3 + 2, none⟩ = some (.int .u8 (x.byte : Int))) (by kernel_rfl) ?_
        refine held_any (fuel := 6) (i := 1) (v := .slice (some ⟨bb, off, none⟩) ws.length cp) rfl (by kernel_rfl) (by kernel_rfl) (by kernel_rfl) rfl (fun _ _ _ h => h) (fun _ _ => rfl) hS ?_
        go_simp
        refine held_any (fuel := 5) (i := 2) (v := .int .i64 (k : Int)) rfl (by kernel_rfl) (by kernel_rfl) (by kernel_rfl) rfl (fun _ _ _ h => h) (fun _ _ => rfl) hS ?_
        go_simp
        refine held_any (fuel := 4) (i := 3) (v := .pointer (some ⟨bb, off + k * 3, none⟩)) rfl (by kernel_rfl) (by kernel_rfl) (by kernel_rfl) rfl (fun _ _ _ h => h) (fun _ _ => by go_simp) hS ?_
        go_simp
        refine held_load (fuel := 3) (i := 4) (t := 42) (v := .agg #[.int .i64 x.kind, .int .i64 x.slot, .int .u8 (x.byte : Int)]) rfl rfl rfl (by kernel_rfl) (by kernel_rfl) (by kernel_rfl) rfl (fun _ _ _ h => h) (fun w' hw' => load_write hw'.1 hw'.2.1 hw'.2.2) hS ?_
        go_simp
        refine wpAnyH_ready (rs := [0]) (by kernel_rfl) (by simp) ?_
        refine AllReadyH.cons rfl (fun K hK => ?_) AllReadyH.nil
        rw [if_pos (by rfl)]
        refine op_load rfl (load_rom (B := w1.heap.size + 1) HF0.out.box') ?_
        refine hK.out _ _ hS (fun _ => ?_)
        clear hK K
        go_simp
        refine wpAnyH_ready (rs := [5]) (by kernel_rfl) (by simp) ?_
        refine AllReadyH.cons rfl (fun K hK => ?_) AllReadyH.nil
        go_simp
        refine (do_impl _ r' x _ HF0.out.rom' HX.out.2).mono ?_
        rintro e w3 ⟨g1, g2, rfl, o1, o2, ok2, b3⟩
        have HF3 : Hid (FolAt w1.heap.size w r (.slice aa r.a.data.length ca) (.slice ab r.b.data.length cb) (.slice (some ⟨bb, off, none⟩) ws.length cp) ws r' (.slice ya r'.a.data.length ka) (.slice yb r'.b.data.length kb) w3) := HF0.out.below b3
        have hS3 : w3.cell? ⟨bb, off + k * 3, none⟩ = some (.int .i64 x.kind) ∧ w3.cell? ⟨bb, off + k * 3 + 1, none⟩ = some (.int .i64 x.slot) ∧ w3.cell? ⟨bb, off + k * 3 + 2, none⟩ = some (.int .u8 (x.byte : Int)) := ⟨(b3.cell (p := ⟨bb, off + k * 3, none⟩) (by show bb < wr.heap.size; omega)).trans p0, (b3.cell (p := ⟨bb, off + k * 3 + 1, none⟩) (by show bb < wr.heap.size; omega)).trans p1, (b3.cell (p := ⟨bb, off + k * 3 + 2, none⟩) (by show bb < wr.heap.size; omega)).trans p2⟩
        obtain ⟨r2, hr2⟩ : ∃ r2, r2 = r'.write x := ⟨_, rfl⟩
        have HE : Hid (r.play (ws.take (k + 1)) = r2) := HX.out.1.trans hr2.symm
        rw [← hr2] at o1 o2 ok2 ⊢
        clear hr2
        have HS3 : Hid (RoOk r2 ∧ FarAt (w1.heap.size + 1) g1 r2.a.data w3 ∧ FarAt (w1.heap.size + 1) g2 r2.b.data w3) := ⟨ok2, far_own o1 (by show _ < wr.heap.size; omega), far_own o2 (by show _ < wr.heap.size; omega)⟩
        obtain ⟨a1, k1, rfl⟩ := own_size o1
        obtain ⟨a2, k2, rfl⟩ := own_size o2
        have HN : Hid (FolRel w1.heap.size w r (.slice aa r.a.data.length ca) (.slice ab r.b.data.length cb) (.slice (some ⟨bb, off, none⟩) ws.length cp) ws (min n.toNat ws.length) (.int .i64 ((k : Int) + 1)) ((((((w3.setCell ⟨(w1.heap.size + 1), 0, none⟩ (.int .u8 (r2.a.mark : Int))).setCell ⟨(w1.heap.size + 1), 1, none⟩ (.int .u8 (r2.a.turn : Int))).setCell ⟨(w1.heap.size + 1), 2, none⟩ (.slice a1 r2.a.data.length k1)).setCell ⟨(w1.heap.size + 1), 3, none⟩ (.int .u8 (r2.b.mark : Int))).setCell ⟨(w1.heap.size + 1), 4, none⟩ (.int .u8 (r2.b.turn : Int))).setCell ⟨(w1.heap.size + 1), 5, none⟩ (.slice a2 r2.b.data.length k2))) := by
          refine ⟨k + 1, .slice a1 r2.a.data.length k1, .slice a2 r2.b.data.length k2, by omega, by go_num, ?_⟩
          rw [HE.out]
          exact HF3.out.stored HS3.out.1 HS3.out.2.1 HS3.out.2.2
        have hS4 : ((((((w3.setCell ⟨(w1.heap.size + 1), 0, none⟩ (.int .u8 (r2.a.mark : Int))).setCell ⟨(w1.heap.size + 1), 1, none⟩ (.int .u8 (r2.a.turn : Int))).setCell ⟨(w1.heap.size + 1), 2, none⟩ (.slice a1 r2.a.data.length k1)).setCell ⟨(w1.heap.size + 1), 3, none⟩ (.int .u8 (r2.b.mark : Int))).setCell ⟨(w1.heap.size + 1), 4, none⟩ (.int .u8 (r2.b.turn : Int))).setCell ⟨(w1.heap.size + 1), 5, none⟩ (.slice a2 r2.b.data.length k2)).cell? ⟨bb, off + k * 3, none⟩ = some (.int .i64 x.kind) ∧ ((((((w3.setCell ⟨(w1.heap.size + 1), 0, none⟩ (.int .u8 (r2.a.mark : Int))).setCell ⟨(w1.heap.size + 1), 1, none⟩ (.int .u8 (r2.a.turn : Int))).setCell ⟨(w1.heap.size + 1), 2, none⟩ (.slice a1 r2.a.data.length k1)).setCell ⟨(w1.heap.size + 1), 3, none⟩ (.int .u8 (r2.b.mark : Int))).setCell ⟨(w1.heap.size + 1), 4, none⟩ (.int .u8 (r2.b.turn : Int))).setCell ⟨(w1.heap.size + 1), 5, none⟩ (.slice a2 r2.b.data.length k2)).cell? ⟨bb, off + k * 3 + 1, none⟩ = some (.int .i64 x.slot) ∧ ((((((w3.setCell ⟨(w1.heap.size + 1), 0, none⟩ (.int .u8 (r2.a.mark : Int))).setCell ⟨(w1.heap.size + 1), 1, none⟩ (.int .u8 (r2.a.turn : Int))).setCell ⟨(w1.heap.size + 1), 2, none⟩ (.slice a1 r2.a.data.length k1)).setCell ⟨(w1.heap.size + 1), 3, none⟩ (.int .u8 (r2.b.mark : Int))).setCell ⟨(w1.heap.size + 1), 4, none⟩ (.int .u8 (r2.b.turn : Int))).setCell ⟨(w1.heap.size + 1), 5, none⟩ (.slice a2 r2.b.data.length k2)).cell? ⟨bb, off + k * 3 + 2, none⟩ = some (.int .u8 (x.byte : Int)) := by
          have bl := set6_block (w := w3) (Q := w1.heap.size + 1) (B := bb) (by omega) (.int .u8 (r2.a.mark : Int)) (.int .u8 (r2.a.turn : Int)) (.slice a1 r2.a.data.length k1) (.int .u8 (r2.b.mark : Int)) (.int .u8 (r2.b.turn : Int)) (.slice a2 r2.b.data.length k2)
          exact ⟨(World.cell?_of_block (a := ⟨bb, off + k * 3, none⟩) bl).trans hS3.1, (World.cell?_of_block (a := ⟨bb, off + k * 3 + 1, none⟩) bl).trans hS3.2.1, (World.cell?_of_block (a := ⟨bb, off + k * 3 + 2, none⟩) bl).trans hS3.2.2⟩
        obtain ⟨u0, u1, u2, u3, u4, u5⟩ := HF3.out.box'.six
        have f0 := HF3.out.fr' 0
        have f1 := HF3.out.fr' 1
        have f2 := HF3.out.fr' 2
        have f3 := HF3.out.fr' 3
        have f4 := HF3.out.fr' 4
        have f5 := HF3.out.fr' 5
        refine hK.out _ _ hS3 (fun _ => ?_)
        clear hK K o1 o2 ok2 b3
        simp only [romV]
        go_simp
        refine wpAnyH_ready (rs := [6]) (by kernel_rfl) (by simp) ?_
        refine AllReadyH.cons rfl (fun K hK => ?_) AllReadyH.nil
        go_simp
        refine hK.out _ _ hS4 (fun _ => ?_)
        clear hK K
        go_simp
        refine wpAnyH_done (by kernel_rfl) ?_ _
        clear hS hS3 hS4 p0 p1 p2 u0 u1 u2 u3 u4 u5 f0 f1 f2 f3 f4 f5
        go_wp2_with fail
        go_roundw
        case rel => exact HN.out
        case measure => simp [intOf]; omega
      · have ek : k = min n.toNat ws.length := by omega
        have HT : Hid (r.play (ws.take n.toNat) = r.play (ws.take k)) := congrArg r.play (take_min (by omega))
        obtain ⟨r', hr'⟩ : ∃ r', r' = r.play (ws.take k) := ⟨_, rfl⟩
        rw [← hr'] at hF HT
        clear hr'
        obtain ⟨ya, ka, rfl⟩ := hF.xa'.1.len
        obtain ⟨yb, kb, rfl⟩ := hF.xb'.1.len
        have HF : Hid (FolAt w1.heap.size w r (.slice aa r.a.data.length ca) (.slice ab r.b.data.length cb) (.slice ap ws.length cp) ws r' (.slice ya r'.a.data.length ka) (.slice yb r'.b.data.length kb) wr) := hF
        have zv : w1.heap.size + 1 < wr.heap.size := hF.box'.z
        obtain ⟨x0, x1, x2, x3, x4, x5⟩ := hF.box.six
        clear hF
        have hf1 : ∀ (x0 x1 x2 x3 x4 x5 : Value) (w : World), (Instr.field 26 (.agg #[x0, x1, x2, x3, x4, x5]) 0).run Try.prog w = .ok (.agg #[x0, x1, x2]) w := fun _ _ _ _ _ _ _ => rfl
        have hf2 : ∀ (x y z : Value) (w : World), (Instr.field 24 (.agg #[x, y, z]) 2).run Try.prog w = .ok z w := fun _ _ _ _ => rfl
        by_cases hkn2 : (k : Int) < n
        · have hkl : ¬ (k : Int) < (ws.length : Int) := by omega
          go_wp2_with fail
          refine (play_impl _ _ r ws n wr HF.out.rom (HF.out.pln.mono (by omega)) H1.out.2.2.2.2.1 (by omega)).mono ?_
          rintro e w3 ⟨g1, g2, rfl, o1, o2, ok2, b3⟩
          rw [HT.out] at o1 o2 ok2 ⊢
          have HF3 : Hid (FolAt w1.heap.size w r (.slice aa r.a.data.length ca) (.slice ab r.b.data.length cb) (.slice ap ws.length cp) ws r' (.slice ya r'.a.data.length ka) (.slice yb r'.b.data.length kb) w3) := HF.out.below b3
          have z3 : w1.heap.size + 1 < w3.heap.size := HF3.out.box'.z
          have HO : Hid (RoOk r' ∧ BytesAt g1 r'.a.data w3 ∧ BytesAt g2 r'.b.data w3) := ⟨ok2, o1.at, o2.at⟩
          obtain ⟨a1, k1, rfl⟩ := own_size o1
          obtain ⟨a2, k2, rfl⟩ := own_size o2
          clear o1 o2 ok2 b3
          simp only [romV]
          go_wp2_with fail
          obtain ⟨wY, hwY⟩ : ∃ wY, wY = w3.alloc (.cells #[.int .u8 (r'.a.mark : Int), .int .u8 (r'.a.turn : Int), .slice a1 r'.a.data.length k1, .int .u8 (r'.b.mark : Int), .int .u8 (r'.b.turn : Int), .slice a2 r'.b.data.length k2] 26) := ⟨_, rfl⟩
          have bY : Below w3.heap.size w3 wY := by rw [hwY]; exact (Below.refl _ _).alloc (Nat.le_refl _) _
          have IB : ∀ w', Below wY.heap.size wY w' → FolAt w1.heap.size w r (.slice aa r.a.data.length ca) (.slice ab r.b.data.length cb) (.slice ap ws.length cp) ws r' (.slice ya r'.a.data.length ka) (.slice yb r'.b.data.length kb) w' := fun w' hw' => (HF3.out.below bY).below hw'
          have IY : ∀ w', Below wY.heap.size wY w' → RomBox w3.heap.size 0 r' (.slice a1 r'.a.data.length k1) (.slice a2 r'.b.data.length k2) w' := fun w' hw' => RomBox.below (w := wY) (by rw [hwY]; exact box_new r' _ _ w3 _) hw' (by rw [hwY]; simp)
          have IG1 : ∀ w', Below wY.heap.size wY w' → BytesAt (.slice a1 r'.a.data.length k1) r'.a.data w' := fun w' hw' => (HO.out.2.1.below bY (Nat.le_refl _)).below hw' (Nat.le_refl _)
          have IG2 : ∀ w', Below wY.heap.size wY w' → BytesAt (.slice a2 r'.b.data.length k2) r'.b.data w' := fun w' hw' => (HO.out.2.2.below bY (Nat.le_refl _)).below hw' (Nat.le_refl _)
          rw [← hwY]
          clear hwY
          have hS : Below wY.heap.size wY wY.drew := (Below.refl _ _).drew
          refine wp_region_held (S := Below wY.heap.size wY) (by kernel_rfl) ?_
          refine held_any (fuel := 70) (i := 0) (v := .pointer (some ⟨w1.heap.size + 1, 0, none⟩)) rfl (by kernel_rfl) (by kernel_rfl) (by kernel_rfl) rfl (fun _ _ _ h => h) (fun _ _ => by simp [go_sem]) hS ?_
          go_simp
          refine held_any (fuel := 69) (i := 1) (v := .pointer (some ⟨w1.heap.size + 1, 0, none⟩)) rfl (by kernel_rfl) (by kernel_rfl) (by kernel_rfl) rfl (fun _ _ _ h => h) (fun _ _ => by simp [go_sem]) hS ?_
          go_simp
          refine held_load (fuel := 68) (i := 2) (t := 5) (v := .int .u8 (r'.a.mark : Int)) rfl rfl rfl (by kernel_rfl) (by kernel_rfl) (by kernel_rfl) rfl (fun _ _ _ h => h) (fun w' hw' => load_byte ((IB w' hw').box'.six).1) hS ?_
          go_simp
          refine held_any (fuel := 67) (i := 3) (v := .pointer (some ⟨w3.heap.size, 0, none⟩)) rfl (by kernel_rfl) (by kernel_rfl) (by kernel_rfl) rfl (fun _ _ _ h => h) (fun _ _ => by simp [go_sem]) hS ?_
          go_simp
          refine held_any (fuel := 66) (i := 4) (v := .pointer (some ⟨w3.heap.size, 0, none⟩)) rfl (by kernel_rfl) (by kernel_rfl) (by kernel_rfl) rfl (fun _ _ _ h => h) (fun _ _ => by simp [go_sem]) hS ?_
          go_simp
          refine held_load (fuel := 65) (i := 5) (t := 5) (v := .int .u8 (r'.a.mark : Int)) rfl rfl rfl (by kernel_rfl) (by kernel_rfl) (by kernel_rfl) rfl (fun _ _ _ h => h) (fun w' hw' => load_byte ((IY w' hw').six).1) hS ?_
          go_simp
          refine held_any (fuel := 64) (i := 6) (v := .bool true) rfl (by kernel_rfl) (by kernel_rfl) (by kernel_rfl) rfl (fun _ _ _ h => h) (fun _ _ => by go_simp) hS ?_
          go_simp
          refine held_any (fuel := 63) (i := 7) (v := .bool true) rfl (by kernel_rfl) (by kernel_rfl) (by kernel_rfl) rfl (fun _ _ _ h => h) (fun _ _ => rfl) hS ?_
          go_simp
          refine held_any (fuel := 62) (i := 8) (v := .pointer (some ⟨w1.heap.size + 1, 3, none⟩)) rfl (by kernel_rfl) (by kernel_rfl) (by kernel_rfl) rfl (fun _ _ _ h => h) (fun _ _ => by simp [go_sem]) hS ?_
          go_simp
          refine held_any (fuel := 61) (i := 9) (v := .pointer (some ⟨w1.heap.size + 1, 3, none⟩)) rfl (by kernel_rfl) (by kernel_rfl) (by kernel_rfl) rfl (fun _ _ _ h => h) (fun _ _ => by simp [go_sem]) hS ?_
          go_simp
          refine held_load (fuel := 60) (i := 10) (t := 5) (v := .int .u8 (r'.b.mark : Int)) rfl rfl rfl (by kernel_rfl) (by kernel_rfl) (by kernel_rfl) rfl (fun _ _ _ h => h) (fun w' hw' => load_byte ((IB w' hw').box'.six).2.2.2.1) hS ?_
          go_simp
          refine held_any (fuel := 59) (i := 11) (v := .pointer (some ⟨w3.heap.size, 3, none⟩)) rfl (by kernel_rfl) (by kernel_rfl) (by kernel_rfl) rfl (fun _ _ _ h => h) (fun _ _ => by simp [go_sem]) hS ?_
          go_simp
          refine held_any (fuel := 58) (i := 12) (v := .pointer (some ⟨w3.heap.size, 3, none⟩)) rfl (by kernel_rfl) (by kernel_rfl) (by kernel_rfl) rfl (fun _ _ _ h => h) (fun _ _ => by simp [go_sem]) hS ?_
          go_simp
          refine held_load (fuel := 57) (i := 13) (t := 5) (v := .int .u8 (r'.b.mark : Int)) rfl rfl rfl (by kernel_rfl) (by kernel_rfl) (by kernel_rfl) rfl (fun _ _ _ h => h) (fun w' hw' => load_byte ((IY w' hw').six).2.2.2.1) hS ?_
          go_simp
          refine held_any (fuel := 56) (i := 14) (v := .bool true) rfl (by kernel_rfl) (by kernel_rfl) (by kernel_rfl) rfl (fun _ _ _ h => h) (fun _ _ => by go_simp) hS ?_
          go_simp
          refine held_any (fuel := 55) (i := 15) (v := .bool true) rfl (by kernel_rfl) (by kernel_rfl) (by kernel_rfl) rfl (fun _ _ _ h => h) (fun _ _ => by go_simp) hS ?_
          go_simp
          refine held_any (fuel := 54) (i := 16) (v := .bool true) rfl (by kernel_rfl) (by kernel_rfl) (by kernel_rfl) rfl (fun _ _ _ h => h) (fun _ _ => rfl) hS ?_
          go_simp
          refine held_any (fuel := 53) (i := 17) (v := .pointer (some ⟨w1.heap.size + 1, 0, none⟩)) rfl (by kernel_rfl) (by kernel_rfl) (by kernel_rfl) rfl (fun _ _ _ h => h) (fun _ _ => by simp [go_sem]) hS ?_
          go_simp
          refine held_any (fuel := 52) (i := 18) (v := .pointer (some ⟨w1.heap.size + 1, 1, none⟩)) rfl (by kernel_rfl) (by kernel_rfl) (by kernel_rfl) rfl (fun _ _ _ h => h) (fun _ _ => by simp [go_sem]) hS ?_
          go_simp
          refine held_load (fuel := 51) (i := 19) (t := 5) (v := .int .u8 (r'.a.turn : Int)) rfl rfl rfl (by kernel_rfl) (by kernel_rfl) (by kernel_rfl) rfl (fun _ _ _ h => h) (fun w' hw' => load_byte ((IB w' hw').box'.six).2.1) hS ?_
          go_simp
          refine held_any (fuel := 50) (i := 20) (v := .pointer (some ⟨w3.heap.size, 0, none⟩)) rfl (by kernel_rfl) (by kernel_rfl) (by kernel_rfl) rfl (fun _ _ _ h => h) (fun _ _ => by simp [go_sem]) hS ?_
          go_simp
          refine held_any (fuel := 49) (i := 21) (v := .pointer (some ⟨w3.heap.size, 1, none⟩)) rfl (by kernel_rfl) (by kernel_rfl) (by kernel_rfl) rfl (fun _ _ _ h => h) (fun _ _ => by simp [go_sem]) hS ?_
          go_simp
          refine held_load (fuel := 48) (i := 22) (t := 5) (v := .int .u8 (r'.a.turn : Int)) rfl rfl rfl (by kernel_rfl) (by kernel_rfl) (by kernel_rfl) rfl (fun _ _ _ h => h) (fun w' hw' => load_byte ((IY w' hw').six).2.1) hS ?_
          go_simp
          refine held_any (fuel := 47) (i := 23) (v := .bool true) rfl (by kernel_rfl) (by kernel_rfl) (by kernel_rfl) rfl (fun _ _ _ h => h) (fun _ _ => by go_simp) hS ?_
          go_simp
          refine held_any (fuel := 46) (i := 24) (v := .bool true) rfl (by kernel_rfl) (by kernel_rfl) (by kernel_rfl) rfl (fun _ _ _ h => h) (fun _ _ => by go_simp) hS ?_
          go_simp
          refine held_any (fuel := 45) (i := 25) (v := .bool true) rfl (by kernel_rfl) (by kernel_rfl) (by kernel_rfl) rfl (fun _ _ _ h => h) (fun _ _ => rfl) hS ?_
          go_simp
          refine held_any (fuel := 44) (i := 26) (v := .pointer (some ⟨w1.heap.size + 1, 3, none⟩)) rfl (by kernel_rfl) (by kernel_rfl) (by kernel_rfl) rfl (fun _ _ _ h => h) (fun _ _ => by simp [go_sem]) hS ?_
          go_simp
          refine held_any (fuel := 43) (i := 27) (v := .pointer (some ⟨w1.heap.size + 1, 4, none⟩)) rfl (by kernel_rfl) (by kernel_rfl) (by kernel_rfl) rfl (fun _ _ _ h => h) (fun _ _ => by simp [go_sem]) hS ?_
          go_simp
          refine held_load (fuel := 42) (i := 28) (t := 5) (v := .int .u8 (r'.b.turn : Int)) rfl rfl rfl (by kernel_rfl) (by kernel_rfl) (by kernel_rfl) rfl (fun _ _ _ h => h) (fun w' hw' => load_byte ((IB w' hw').box'.six).2.2.2.2.1) hS ?_
          go_simp
          refine held_any (fuel := 41) (i := 29) (v := .pointer (some ⟨w3.heap.size, 3, none⟩)) rfl (by kernel_rfl) (by kernel_rfl) (by kernel_rfl) rfl (fun _ _ _ h => h) (fun _ _ => by simp [go_sem]) hS ?_
          go_simp
          refine held_any (fuel := 40) (i := 30) (v := .pointer (some ⟨w3.heap.size, 4, none⟩)) rfl (by kernel_rfl) (by kernel_rfl) (by kernel_rfl) rfl (fun _ _ _ h => h) (fun _ _ => by simp [go_sem]) hS ?_
          go_simp
          refine held_load (fuel := 39) (i := 31) (t := 5) (v := .int .u8 (r'.b.turn : Int)) rfl rfl rfl (by kernel_rfl) (by kernel_rfl) (by kernel_rfl) rfl (fun _ _ _ h => h) (fun w' hw' => load_byte ((IY w' hw').six).2.2.2.2.1) hS ?_
          go_simp
          refine held_any (fuel := 38) (i := 32) (v := .bool true) rfl (by kernel_rfl) (by kernel_rfl) (by kernel_rfl) rfl (fun _ _ _ h => h) (fun _ _ => by go_simp) hS ?_
          go_simp
          refine held_any (fuel := 37) (i := 33) (v := .bool true) rfl (by kernel_rfl) (by kernel_rfl) (by kernel_rfl) rfl (fun _ _ _ h => h) (fun _ _ => by go_simp) hS ?_
          go_simp
          refine held_any (fuel := 36) (i := 34) (v := .bool true) rfl (by kernel_rfl) (by kernel_rfl) (by kernel_rfl) rfl (fun _ _ _ h => h) (fun _ _ => rfl) hS ?_
          go_simp
          refine held_any (fuel := 35) (i := 35) (v := .pointer (some ⟨w1.heap.size + 1, 0, none⟩)) rfl (by kernel_rfl) (by kernel_rfl) (by kernel_rfl) rfl (fun _ _ _ h => h) (fun _ _ => by simp [go_sem]) hS ?_
          go_simp
          refine held_any (fuel := 34) (i := 36) (v := .pointer (some ⟨w1.heap.size + 1, 2, none⟩)) rfl (by kernel_rfl) (by kernel_rfl) (by kernel_rfl) rfl (fun _ _ _ h => h) (fun _ _ => by simp [go_sem]) hS ?_
          go_simp
          refine held_load (fuel := 33) (i := 37) (t := 22) (v := (.slice ya r'.a.data.length ka)) rfl rfl rfl (by kernel_rfl) (by kernel_rfl) (by kernel_rfl) rfl (fun _ _ _ h => h) (fun w' hw' => load_slice ((IB w' hw').box'.six).2.2.1) hS ?_
          go_simp
          refine held_conv (t := 22) (t2 := 9) (fuel := 32) (i := 38) (v := .string (strOf r'.a.data)) rfl rfl rfl (by kernel_rfl) (by kernel_rfl) (by kernel_rfl) rfl (fun _ _ _ h => h) (fun w' hw' => str_run ((IB w' hw').xa'.1)) hS ?_
          go_simp
          refine held_any (fuel := 31) (i := 39) (v := .pointer (some ⟨w3.heap.size, 0, none⟩)) rfl (by kernel_rfl) (by kernel_rfl) (by kernel_rfl) rfl (fun _ _ _ h => h) (fun _ _ => by simp [go_sem]) hS ?_
          go_simp
          refine held_any (fuel := 30) (i := 40) (v := .pointer (some ⟨w3.heap.size, 2, none⟩)) rfl (by kernel_rfl) (by kernel_rfl) (by kernel_rfl) rfl (fun _ _ _ h => h) (fun _ _ => by simp [go_sem]) hS ?_
          go_simp
          refine held_load (fuel := 29) (i := 41) (t := 22) (v := (.slice a1 r'.a.data.length k1)) rfl rfl rfl (by kernel_rfl) (by kernel_rfl) (by kernel_rfl) rfl (fun _ _ _ h => h) (fun w' hw' => load_slice ((IY w' hw').six).2.2.1) hS ?_
          go_simp
          refine held_conv (t := 22) (t2 := 9) (fuel := 28) (i := 42) (v := .string (strOf r'.a.data)) rfl rfl rfl (by kernel_rfl) (by kernel_rfl) (by kernel_rfl) rfl (fun _ _ _ h => h) (fun w' hw' => str_run (IG1 w' hw')) hS ?_
          go_simp
          refine held_any (fuel := 27) (i := 43) (v := .bool true) rfl (by kernel_rfl) (by kernel_rfl) (by kernel_rfl) rfl (fun _ _ _ h => h) (fun _ _ => by go_simp) hS ?_
          go_simp
          refine held_any (fuel := 26) (i := 44) (v := .bool true) rfl (by kernel_rfl) (by kernel_rfl) (by kernel_rfl) rfl (fun _ _ _ h => h) (fun _ _ => by go_simp) hS ?_
          go_simp
          refine held_any (fuel := 25) (i := 45) (v := .bool true) rfl (by kernel_rfl) (by kernel_rfl) (by kernel_rfl) rfl (fun _ _ _ h => h) (fun _ _ => rfl) hS ?_
          go_simp
          refine held_any (fuel := 24) (i := 46) (v := .pointer (some ⟨w1.heap.size + 1, 3, none⟩)) rfl (by kernel_rfl) (by kernel_rfl) (by kernel_rfl) rfl (fun _ _ _ h => h) (fun _ _ => by simp [go_sem]) hS ?_
          go_simp
          refine held_any (fuel := 23) (i := 47) (v := .pointer (some ⟨w1.heap.size + 1, 5, none⟩)) rfl (by kernel_rfl) (by kernel_rfl) (by kernel_rfl) rfl (fun _ _ _ h => h) (fun _ _ => by simp [go_sem]) hS ?_
          go_simp
          refine held_load (fuel := 22) (i := 48) (t := 22) (v := (.slice yb r'.b.data.length kb)) rfl rfl rfl (by kernel_rfl) (by kernel_rfl) (by kernel_rfl) rfl (fun _ _ _ h => h) (fun w' hw' => load_slice ((IB w' hw').box'.six).2.2.2.2.2) hS ?_
          go_simp
          refine held_conv (t := 22) (t2 := 9) (fuel := 21) (i := 49) (v := .string (strOf r'.b.data)) rfl rfl rfl (by kernel_rfl) (by kernel_rfl) (by kernel_rfl) rfl (fun _ _ _ h => h) (fun w' hw' => str_run ((IB w' hw').xb'.1)) hS ?_
          go_simp
          refine held_any (fuel := 20) (i := 50) (v := .pointer (some ⟨w3.heap.size, 3, none⟩)) rfl (by kernel_rfl) (by kernel_rfl) (by kernel_rfl) rfl (fun _ _ _ h => h) (fun _ _ => by simp [go_sem]) hS ?_
          go_simp
          refine held_any (fuel := 19) (i := 51) (v := .pointer (some ⟨w3.heap.size, 5, none⟩)) rfl (by kernel_rfl) (by kernel_rfl) (by kernel_rfl) rfl (fun _ _ _ h => h) (fun _ _ => by simp [go_sem]) hS ?_
          go_simp
          refine held_load (fuel := 18) (i := 52) (t := 22) (v := (.slice a2 r'.b.data.length k2)) rfl rfl rfl (by kernel_rfl) (by kernel_rfl) (by kernel_rfl) rfl (fun _ _ _ h => h) (fun w' hw' => load_slice ((IY w' hw').six).2.2.2.2.2) hS ?_
          go_simp
          refine held_conv (t := 22) (t2 := 9) (fuel := 17) (i := 53) (v := .string (strOf r'.b.data)) rfl rfl rfl (by kernel_rfl) (by kernel_rfl) (by kernel_rfl) rfl (fun _ _ _ h => h) (fun w' hw' => str_run (IG2 w' hw')) hS ?_
          go_simp
          refine held_any (fuel := 16) (i := 54) (v := .bool true) rfl (by kernel_rfl) (by kernel_rfl) (by kernel_rfl) rfl (fun _ _ _ h => h) (fun _ _ => by go_simp) hS ?_
          go_simp
          refine held_any (fuel := 15) (i := 55) (v := .bool true) rfl (by kernel_rfl) (by kernel_rfl) (by kernel_rfl) rfl (fun _ _ _ h => h) (fun _ _ => by go_simp) hS ?_
          go_simp
          refine held_any (fuel := 14) (i := 56) (v := .bool true) rfl (by kernel_rfl) (by kernel_rfl) (by kernel_rfl) rfl (fun _ _ _ h => h) (fun _ _ => rfl) hS ?_
          go_simp
          refine held_any (fuel := 13) (i := 57) (v := .pointer (some ⟨w3.heap.size, 0, none⟩)) rfl (by kernel_rfl) (by kernel_rfl) (by kernel_rfl) rfl (fun _ _ _ h => h) (fun _ _ => by simp [go_sem]) hS ?_
          go_simp
          refine held_any (fuel := 12) (i := 58) (v := .pointer (some ⟨w3.heap.size, 2, none⟩)) rfl (by kernel_rfl) (by kernel_rfl) (by kernel_rfl) rfl (fun _ _ _ h => h) (fun _ _ => by simp [go_sem]) hS ?_
          go_simp
          refine held_load (fuel := 11) (i := 59) (t := 22) (v := (.slice a1 r'.a.data.length k1)) rfl rfl rfl (by kernel_rfl) (by kernel_rfl) (by kernel_rfl) rfl (fun _ _ _ h => h) (fun w' hw' => load_slice ((IY w' hw').six).2.2.1) hS ?_
          go_simp
          refine held_conv (t := 22) (t2 := 9) (fuel := 10) (i := 60) (v := .string (strOf r'.a.data)) rfl rfl rfl (by kernel_rfl) (by kernel_rfl) (by kernel_rfl) rfl (fun _ _ _ h => h) (fun w' hw' => str_run (IG1 w' hw')) hS ?_
          go_simp
          refine held_load (fuel := 9) (i := 61) (t := 26) (v := romV r (.slice aa r.a.data.length ca) (.slice ab r.b.data.length cb)) rfl rfl rfl (by kernel_rfl) (by kernel_rfl) (by kernel_rfl) rfl (fun _ _ _ h => h) (fun w' hw' => load_rom (IB w' hw').box) hS ?_
          go_simp
          refine held_any (fuel := 8) (i := 62) (v := .slice ap ws.length cp) rfl (by kernel_rfl) (by kernel_rfl) (by kernel_rfl) rfl (fun _ _ _ h => h) (fun _ _ => rfl) hS ?_
          go_simp
          refine held_any (fuel := 7) (i := 63) (v := .int .i64 n) rfl (by kernel_rfl) (by kernel_rfl) (by kernel_rfl) rfl (fun _ _ _ h => h) (fun _ _ => rfl) hS ?_
          go_simp
          refine wpAnyH_ready (rs := [64]) (by kernel_rfl) (by simp) ?_
          refine AllReadyH.cons rfl (fun K hK => ?_) AllReadyH.nil
          go_simp
          refine (play_spec _ _ r ws n _ (IB _ hS).rom ((IB _ hS).pln.mono (by have := (IB _ hS).box.z; omega)) H1.out.2.2.2.2.1 (by omega)).mono ?_
          rintro e w5 ⟨g3, g4, rfl, o3, o4, ok3, b5⟩
          rw [HT.out] at o3 o4 ok3 ⊢
          have t5 := str_run o3.at
          have hS5 : Below wY.heap.size wY w5 := hS.trans (b5.mono hS.size)
          have HB5 : Hid (Below w.heap.size w w5) := (IB _ hS5).bel
          obtain ⟨a3, k3, rfl⟩ := own_size o3
          obtain ⟨a4, k4, rfl⟩ := own_size o4
          refine hK.out _ _ hS5 (fun _ => ?_)
          clear hK K o3 o4 ok3 b5
          simp only [romV]
          go_simp
          refine held_any (fuel := 5) (i := 65) (v := .agg #[.int .u8 (r'.a.mark : Int), .int .u8 (r'.a.turn : Int), .slice a3 r'.a.data.length k3]) rfl (by kernel_rfl) (by kernel_rfl) (by kernel_rfl) rfl (fun _ _ _ h => h) (fun _ _ => rfl) hS5 ?_
          go_simp
          refine held_any (fuel := 4) (i := 66) (v := .slice a3 r'.a.data.length k3) rfl (by kernel_rfl) (by kernel_rfl) (by kernel_rfl) rfl (fun _ _ _ h => h) (fun _ _ => rfl) hS5 ?_
          go_simp
          refine wpAnyH_ready (rs := [67]) (by kernel_rfl) (by simp) ?_
          refine AllReadyH.cons rfl (fun K hK => ?_) AllReadyH.nil
          rw [if_pos (by rfl)]
          refine op_conv rfl t5 ?_
          refine hK.out _ _ hS5 (fun _ => ?_)
          clear hK K
          go_simp
          refine held_any (fuel := 2) (i := 68) (v := .bool true) rfl (by kernel_rfl) (by kernel_rfl) (by kernel_rfl) rfl (fun _ _ _ h => h) (fun _ _ => by go_simp) hS5 ?_
          go_simp
          refine held_any (fuel := 1) (i := 69) (v := .bool true) rfl (by kernel_rfl) (by kernel_rfl) (by kernel_rfl) rfl (fun _ _ _ h => h) (fun _ _ => by go_simp) hS5 ?_
          go_simp
          refine held_any (fuel := 0) (i := 70) (v := .bool true) rfl (by kernel_rfl) (by kernel_rfl) (by kernel_rfl) rfl (fun _ _ _ h => h) (fun _ _ => rfl) hS5 ?_
          go_simp
          refine wpAnyH_done (by kernel_rfl) ?_ _
          clear IB IY IG1 IG2 hS hS5 t5
          go_wp2_with fail
          go_ret
          exact ⟨rfl, HB5.out⟩
        · skip
          go_wp2_with fail
          refine (play_impl _ _ r ws n wr HF.out.rom (HF.out.pln.mono (by omega)) H1.out.2.2.2.2.1 (by omega)).mono ?_
          rintro e w3 ⟨g1, g2, rfl, o1, o2, ok2, b3⟩
          rw [HT.out] at o1 o2 ok2 ⊢
          have HF3 : Hid (FolAt w1.heap.size w r (.slice aa r.a.data.length ca) (.slice ab r.b.data.length cb) (.slice ap ws.length cp) ws r' (.slice ya r'.a.data.length ka) (.slice yb r'.b.data.length kb) w3) := HF.out.below b3
          have z3 : w1.heap.size + 1 < w3.heap.size := HF3.out.box'.z
          have HO : Hid (RoOk r' ∧ BytesAt g1 r'.a.data w3 ∧ BytesAt g2 r'.b.data w3) := ⟨ok2, o1.at, o2.at⟩
          obtain ⟨a1, k1, rfl⟩ := own_size o1
          obtain ⟨a2, k2, rfl⟩ := own_size o2
          clear o1 o2 ok2 b3
          simp only [romV]
          go_wp2_with fail
          obtain ⟨wY, hwY⟩ : ∃ wY, wY = w3.alloc (.cells #[.int .u8 (r'.a.mark : Int), .int .u8 (r'.a.turn : Int), .slice a1 r'.a.data.length k1, .int .u8 (r'.b.mark : Int), .int .u8 (r'.b.turn : Int), .slice a2 r'.b.data.length k2] 26) := ⟨_, rfl⟩
          have bY : Below w3.heap.size w3 wY := by rw [hwY]; exact (Below.refl _ _).alloc (Nat.le_refl _) _
          have IB : ∀ w', Below wY.heap.size wY w' → FolAt w1.heap.size w r (.slice aa r.a.data.length ca) (.slice ab r.b.data.length cb) (.slice ap ws.length cp) ws r' (.slice ya r'.a.data.length ka) (.slice yb r'.b.data.length kb) w' := fun w' hw' => (HF3.out.below bY).below hw'
          have IY : ∀ w', Below wY.heap.size wY w' → RomBox w3.heap.size 0 r' (.slice a1 r'.a.data.length k1) (.slice a2 r'.b.data.length k2) w' := fun w' hw' => RomBox.below (w := wY) (by rw [hwY]; exact box_new r' _ _ w3 _) hw' (by rw [hwY]; simp)
          have IG1 : ∀ w', Below wY.heap.size wY w' → BytesAt (.slice a1 r'.a.data.length k1) r'.a.data w' := fun w' hw' => (HO.out.2.1.below bY (Nat.le_refl _)).below hw' (Nat.le_refl _)
          have IG2 : ∀ w', Below wY.heap.size wY w' → BytesAt (.slice a2 r'.b.data.length k2) r'.b.data w' := fun w' hw' => (HO.out.2.2.below bY (Nat.le_refl _)).below hw' (Nat.le_refl _)
          rw [← hwY]
          clear hwY
          have hS : Below wY.heap.size wY wY.drew := (Below.refl _ _).drew
          refine wp_region_held (S := Below wY.heap.size wY) (by kernel_rfl) ?_
          refine held_any (fuel := 70) (i := 0) (v := .pointer (some ⟨w1.heap.size + 1, 0, none⟩)) rfl (by kernel_rfl) (by kernel_rfl) (by kernel_rfl) rfl (fun _ _ _ h => h) (fun _ _ => by simp [go_sem]) hS ?_
          go_simp
          refine held_any (fuel := 69) (i := 1) (v := .pointer (some ⟨w1.heap.size + 1, 0, none⟩)) rfl (by kernel_rfl) (by kernel_rfl) (by kernel_rfl) rfl (fun _ _ _ h => h) (fun _ _ => by simp [go_sem]) hS ?_
          go_simp
          refine held_load (fuel := 68) (i := 2) (t := 5) (v := .int .u8 (r'.a.mark : Int)) rfl rfl rfl (by kernel_rfl) (by kernel_rfl) (by kernel_rfl) rfl (fun _ _ _ h => h) (fun w' hw' => load_byte ((IB w' hw').box'.six).1) hS ?_
          go_simp
          refine held_any (fuel := 67) (i := 3) (v := .pointer (some ⟨w3.heap.size, 0, none⟩)) rfl (by kernel_rfl) (by kernel_rfl) (by kernel_rfl) rfl (fun _ _ _ h => h) (fun _ _ => by simp [go_sem]) hS ?_
          go_simp
          refine held_any (fuel := 66) (i := 4) (v := .pointer (some ⟨w3.heap.size, 0, none⟩)) rfl (by kernel_rfl) (by kernel_rfl) (by kernel_rfl) rfl (fun _ _ _ h => h) (fun _ _ => by simp [go_sem]) hS ?_
          go_simp
          refine held_load (fuel := 65) (i := 5) (t := 5) (v := .int .u8 (r'.a.mark : Int)) rfl rfl rfl (by kernel_rfl) (by kernel_rfl) (by kernel_rfl) rfl (fun _ _ _ h => h) (fun w' hw' => load_byte ((IY w' hw').six).1) hS ?_
          go_simp
          refine held_any (fuel := 64) (i := 6) (v := .bool true) rfl (by kernel_rfl) (by kernel_rfl) (by kernel_rfl) rfl (fun _ _ _ h => h) (fun _ _ => by go_simp) hS ?_
          go_simp
          refine held_any (fuel := 63) (i := 7) (v := .bool true) rfl (by kernel_rfl) (by kernel_rfl) (by kernel_rfl) rfl (fun _ _ _ h => h) (fun _ _ => rfl) hS ?_
          go_simp
          refine held_any (fuel := 62) (i := 8) (v := .pointer (some ⟨w1.heap.size + 1, 3, none⟩)) rfl (by kernel_rfl) (by kernel_rfl) (by kernel_rfl) rfl (fun _ _ _ h => h) (fun _ _ => by simp [go_sem]) hS ?_
          go_simp
          refine held_any (fuel := 61) (i := 9) (v := .pointer (some ⟨w1.heap.size + 1, 3, none⟩)) rfl (by kernel_rfl) (by kernel_rfl) (by kernel_rfl) rfl (fun _ _ _ h => h) (fun _ _ => by simp [go_sem]) hS ?_
          go_simp
          refine held_load (fuel := 60) (i := 10) (t := 5) (v := .int .u8 (r'.b.mark : Int)) rfl rfl rfl (by kernel_rfl) (by kernel_rfl) (by kernel_rfl) rfl (fun _ _ _ h => h) (fun w' hw' => load_byte ((IB w' hw').box'.six).2.2.2.1) hS ?_
          go_simp
          refine held_any (fuel := 59) (i := 11) (v := .pointer (some ⟨w3.heap.size, 3, none⟩)) rfl (by kernel_rfl) (by kernel_rfl) (by kernel_rfl) rfl (fun _ _ _ h => h) (fun _ _ => by simp [go_sem]) hS ?_
          go_simp
          refine held_any (fuel := 58) (i := 12) (v := .pointer (some ⟨w3.heap.size, 3, none⟩)) rfl (by kernel_rfl) (by kernel_rfl) (by kernel_rfl) rfl (fun _ _ _ h => h) (fun _ _ => by simp [go_sem]) hS ?_
          go_simp
          refine held_load (fuel := 57) (i := 13) (t := 5) (v := .int .u8 (r'.b.mark : Int)) rfl rfl rfl (by kernel_rfl) (by kernel_rfl) (by kernel_rfl) rfl (fun _ _ _ h => h) (fun w' hw' => load_byte ((IY w' hw').six).2.2.2.1) hS ?_
          go_simp
          refine held_any (fuel := 56) (i := 14) (v := .bool true) rfl (by kernel_rfl) (by kernel_rfl) (by kernel_rfl) rfl (fun _ _ _ h => h) (fun _ _ => by go_simp) hS ?_
          go_simp
          refine held_any (fuel := 55) (i := 15) (v := .bool true) rfl (by kernel_rfl) (by kernel_rfl) (by kernel_rfl) rfl (fun _ _ _ h => h) (fun _ _ => by go_simp) hS ?_
          go_simp
          refine held_any (fuel := 54) (i := 16) (v := .bool true) rfl (by kernel_rfl) (by kernel_rfl) (by kernel_rfl) rfl (fun _ _ _ h => h) (fun _ _ => rfl) hS ?_
          go_simp
          refine held_any (fuel := 53) (i := 17) (v := .pointer (some ⟨w1.heap.size + 1, 0, none⟩)) rfl (by kernel_rfl) (by kernel_rfl) (by kernel_rfl) rfl (fun _ _ _ h => h) (fun _ _ => by simp [go_sem]) hS ?_
          go_simp
          refine held_any (fuel := 52) (i := 18) (v := .pointer (some ⟨w1.heap.size + 1, 1, none⟩)) rfl (by kernel_rfl) (by kernel_rfl) (by kernel_rfl) rfl (fun _ _ _ h => h) (fun _ _ => by simp [go_sem]) hS ?_
          go_simp
          refine held_load (fuel := 51) (i := 19) (t := 5) (v := .int .u8 (r'.a.turn : Int)) rfl rfl rfl (by kernel_rfl) (by kernel_rfl) (by kernel_rfl) rfl (fun _ _ _ h => h) (fun w' hw' => load_byte ((IB w' hw').box'.six).2.1) hS ?_
          go_simp
          refine held_any (fuel := 50) (i := 20) (v := .pointer (some ⟨w3.heap.size, 0, none⟩)) rfl (by kernel_rfl) (by kernel_rfl) (by kernel_rfl) rfl (fun _ _ _ h => h) (fun _ _ => by simp [go_sem]) hS ?_
          go_simp
          refine held_any (fuel := 49) (i := 21) (v := .pointer (some ⟨w3.heap.size, 1, none⟩)) rfl (by kernel_rfl) (by kernel_rfl) (by kernel_rfl) rfl (fun _ _ _ h => h) (fun _ _ => by simp [go_sem]) hS ?_
          go_simp
          refine held_load (fuel := 48) (i := 22) (t := 5) (v := .int .u8 (r'.a.turn : Int)) rfl rfl rfl (by kernel_rfl) (by kernel_rfl) (by kernel_rfl) rfl (fun _ _ _ h => h) (fun w' hw' => load_byte ((IY w' hw').six).2.1) hS ?_
          go_simp
          refine held_any (fuel := 47) (i := 23) (v := .bool true) rfl (by kernel_rfl) (by kernel_rfl) (by kernel_rfl) rfl (fun _ _ _ h => h) (fun _ _ => by go_simp) hS ?_
          go_simp
          refine held_any (fuel := 46) (i := 24) (v := .bool true) rfl (by kernel_rfl) (by kernel_rfl) (by kernel_rfl) rfl (fun _ _ _ h => h) (fun _ _ => by go_simp) hS ?_
          go_simp
          refine held_any (fuel := 45) (i := 25) (v := .bool true) rfl (by kernel_rfl) (by kernel_rfl) (by kernel_rfl) rfl (fun _ _ _ h => h) (fun _ _ => rfl) hS ?_
          go_simp
          refine held_any (fuel := 44) (i := 26) (v := .pointer (some ⟨w1.heap.size + 1, 3, none⟩)) rfl (by kernel_rfl) (by kernel_rfl) (by kernel_rfl) rfl (fun _ _ _ h => h) (fun _ _ => by simp [go_sem]) hS ?_
          go_simp
          refine held_any (fuel := 43) (i := 27) (v := .pointer (some ⟨w1.heap.size + 1, 4, none⟩)) rfl (by kernel_rfl) (by kernel_rfl) (by kernel_rfl) rfl (fun _ _ _ h => h) (fun _ _ => by simp [go_sem]) hS ?_
          go_simp
          refine held_load (fuel := 42) (i := 28) (t := 5) (v := .int .u8 (r'.b.turn : Int)) rfl rfl rfl (by kernel_rfl) (by kernel_rfl) (by kernel_rfl) rfl (fun _ _ _ h => h) (fun w' hw' => load_byte ((IB w' hw').box'.six).2.2.2.2.1) hS ?_
          go_simp
          refine held_any (fuel := 41) (i := 29) (v := .pointer (some ⟨w3.heap.size, 3, none⟩)) rfl (by kernel_rfl) (by kernel_rfl) (by kernel_rfl) rfl (fun _ _ _ h => h) (fun _ _ => by simp [go_sem]) hS ?_
          go_simp
          refine held_any (fuel := 40) (i := 30) (v := .pointer (some ⟨w3.heap.size, 4, none⟩)) rfl (by kernel_rfl) (by kernel_rfl) (by kernel_rfl) rfl (fun _ _ _ h => h) (fun _ _ => by simp [go_sem]) hS ?_
          go_simp
          refine held_load (fuel := 39) (i := 31) (t := 5) (v := .int .u8 (r'.b.turn : Int)) rfl rfl rfl (by kernel_rfl) (by kernel_rfl) (by kernel_rfl) rfl (fun _ _ _ h => h) (fun w' hw' => load_byte ((IY w' hw').six).2.2.2.2.1) hS ?_
          go_simp
          refine held_any (fuel := 38) (i := 32) (v := .bool true) rfl (by kernel_rfl) (by kernel_rfl) (by kernel_rfl) rfl (fun _ _ _ h => h) (fun _ _ => by go_simp) hS ?_
          go_simp
          refine held_any (fuel := 37) (i := 33) (v := .bool true) rfl (by kernel_rfl) (by kernel_rfl) (by kernel_rfl) rfl (fun _ _ _ h => h) (fun _ _ => by go_simp) hS ?_
          go_simp
          refine held_any (fuel := 36) (i := 34) (v := .bool true) rfl (by kernel_rfl) (by kernel_rfl) (by kernel_rfl) rfl (fun _ _ _ h => h) (fun _ _ => rfl) hS ?_
          go_simp
          refine held_any (fuel := 35) (i := 35) (v := .pointer (some ⟨w1.heap.size + 1, 0, none⟩)) rfl (by kernel_rfl) (by kernel_rfl) (by kernel_rfl) rfl (fun _ _ _ h => h) (fun _ _ => by simp [go_sem]) hS ?_
          go_simp
          refine held_any (fuel := 34) (i := 36) (v := .pointer (some ⟨w1.heap.size + 1, 2, none⟩)) rfl (by kernel_rfl) (by kernel_rfl) (by kernel_rfl) rfl (fun _ _ _ h => h) (fun _ _ => by simp [go_sem]) hS ?_
          go_simp
          refine held_load (fuel := 33) (i := 37) (t := 22) (v := (.slice ya r'.a.data.length ka)) rfl rfl rfl (by kernel_rfl) (by kernel_rfl) (by kernel_rfl) rfl (fun _ _ _ h => h) (fun w' hw' => load_slice ((IB w' hw').box'.six).2.2.1) hS ?_
          go_simp
          refine held_conv (t := 22) (t2 := 9) (fuel := 32) (i := 38) (v := .string (strOf r'.a.data)) rfl rfl rfl (by kernel_rfl) (by kernel_rfl) (by kernel_rfl) rfl (fun _ _ _ h => h) (fun w' hw' => str_run ((IB w' hw').xa'.1)) hS ?_
          go_simp
          refine held_any (fuel := 31) (i := 39) (v := .pointer (some ⟨w3.heap.size, 0, none⟩)) rfl (by kernel_rfl) (by kernel_rfl) (by kernel_rfl) rfl (fun _ _ _ h => h) (fun _ _ => by simp [go_sem]) hS ?_
          go_simp
          refine held_any (fuel := 30) (i := 40) (v := .pointer (some ⟨w3.heap.size, 2, none⟩)) rfl (by kernel_rfl) (by kernel_rfl) (by kernel_rfl) rfl (fun _ _ _ h => h) (fun _ _ => by simp [go_sem]) hS ?_
          go_simp
          refine held_load (fuel := 29) (i := 41) (t := 22) (v := (.slice a1 r'.a.data.length k1)) rfl rfl rfl (by kernel_rfl) (by kernel_rfl) (by kernel_rfl) rfl (fun _ _ _ h => h) (fun w' hw' => load_slice ((IY w' hw').six).2.2.1) hS ?_
          go_simp
          refine held_conv (t := 22) (t2 := 9) (fuel := 28) (i := 42) (v := .string (strOf r'.a.data)) rfl rfl rfl (by kernel_rfl) (by kernel_rfl) (by kernel_rfl) rfl (fun _ _ _ h => h) (fun w' hw' => str_run (IG1 w' hw')) hS ?_
          go_simp
          refine held_any (fuel := 27) (i := 43) (v := .bool true) rfl (by kernel_rfl) (by kernel_rfl) (by kernel_rfl) rfl (fun _ _ _ h => h) (fun _ _ => by go_simp) hS ?_
          go_simp
          refine held_any (fuel := 26) (i := 44) (v := .bool true) rfl (by kernel_rfl) (by kernel_rfl) (by kernel_rfl) rfl (fun _ _ _ h => h) (fun _ _ => by go_simp) hS ?_
          go_simp
          refine held_any (fuel := 25) (i := 45) (v := .bool true) rfl (by kernel_rfl) (by kernel_rfl) (by kernel_rfl) rfl (fun _ _ _ h => h) (fun _ _ => rfl) hS ?_
          go_simp
          refine held_any (fuel := 24) (i := 46) (v := .pointer (some ⟨w1.heap.size + 1, 3, none⟩)) rfl (by kernel_rfl) (by kernel_rfl) (by kernel_rfl) rfl (fun _ _ _ h => h) (fun _ _ => by simp [go_sem]) hS ?_
          go_simp
          refine held_any (fuel := 23) (i := 47) (v := .pointer (some ⟨w1.heap.size + 1, 5, none⟩)) rfl (by kernel_rfl) (by kernel_rfl) (by kernel_rfl) rfl (fun _ _ _ h => h) (fun _ _ => by simp [go_sem]) hS ?_
          go_simp
          refine held_load (fuel := 22) (i := 48) (t := 22) (v := (.slice yb r'.b.data.length kb)) rfl rfl rfl (by kernel_rfl) (by kernel_rfl) (by kernel_rfl) rfl (fun _ _ _ h => h) (fun w' hw' => load_slice ((IB w' hw').box'.six).2.2.2.2.2) hS ?_
          go_simp
          refine held_conv (t := 22) (t2 := 9) (fuel := 21) (i := 49) (v := .string (strOf r'.b.data)) rfl rfl rfl (by kernel_rfl) (by kernel_rfl) (by kernel_rfl) rfl (fun _ _ _ h => h) (fun w' hw' => str_run ((IB w' hw').xb'.1)) hS ?_
          go_simp
          refine held_any (fuel := 20) (i := 50) (v := .pointer (some ⟨w3.heap.size, 3, none⟩)) rfl (by kernel_rfl) (by kernel_rfl) (by kernel_rfl) rfl (fun _ _ _ h => h) (fun _ _ => by simp [go_sem]) hS ?_
          go_simp
          refine held_any (fuel := 19) (i := 51) (v := .pointer (some ⟨w3.heap.size, 5, none⟩)) rfl (by kernel_rfl) (by kernel_rfl) (by kernel_rfl) rfl (fun _ _ _ h => h) (fun _ _ => by simp [go_sem]) hS ?_
          go_simp
          refine held_load (fuel := 18) (i := 52) (t := 22) (v := (.slice a2 r'.b.data.length k2)) rfl rfl rfl (by kernel_rfl) (by kernel_rfl) (by kernel_rfl) rfl (fun _ _ _ h => h) (fun w' hw' => load_slice ((IY w' hw').six).2.2.2.2.2) hS ?_
          go_simp
          refine held_conv (t := 22) (t2 := 9) (fuel := 17) (i := 53) (v := .string (strOf r'.b.data)) rfl rfl rfl (by kernel_rfl) (by kernel_rfl) (by kernel_rfl) rfl (fun _ _ _ h => h) (fun w' hw' => str_run (IG2 w' hw')) hS ?_
          go_simp
          refine held_any (fuel := 16) (i := 54) (v := .bool true) rfl (by kernel_rfl) (by kernel_rfl) (by kernel_rfl) rfl (fun _ _ _ h => h) (fun _ _ => by go_simp) hS ?_
          go_simp
          refine held_any (fuel := 15) (i := 55) (v := .bool true) rfl (by kernel_rfl) (by kernel_rfl) (by kernel_rfl) rfl (fun _ _ _ h => h) (fun _ _ => by go_simp) hS ?_
          go_simp
          refine held_any (fuel := 14) (i := 56) (v := .bool true) rfl (by kernel_rfl) (by kernel_rfl) (by kernel_rfl) rfl (fun _ _ _ h => h) (fun _ _ => rfl) hS ?_
          go_simp
          refine held_any (fuel := 13) (i := 57) (v := .pointer (some ⟨w3.heap.size, 0, none⟩)) rfl (by kernel_rfl) (by kernel_rfl) (by kernel_rfl) rfl (fun _ _ _ h => h) (fun _ _ => by simp [go_sem]) hS ?_
          go_simp
          refine held_any (fuel := 12) (i := 58) (v := .pointer (some ⟨w3.heap.size, 2, none⟩)) rfl (by kernel_rfl) (by kernel_rfl) (by kernel_rfl) rfl (fun _ _ _ h => h) (fun _ _ => by simp [go_sem]) hS ?_
          go_simp
          refine held_load (fuel := 11) (i := 59) (t := 22) (v := (.slice a1 r'.a.data.length k1)) rfl rfl rfl (by kernel_rfl) (by kernel_rfl) (by kernel_rfl) rfl (fun _ _ _ h => h) (fun w' hw' => load_slice ((IY w' hw').six).2.2.1) hS ?_
          go_simp
          refine held_conv (t := 22) (t2 := 9) (fuel := 10) (i := 60) (v := .string (strOf r'.a.data)) rfl rfl rfl (by kernel_rfl) (by kernel_rfl) (by kernel_rfl) rfl (fun _ _ _ h => h) (fun w' hw' => str_run (IG1 w' hw')) hS ?_
          go_simp
          refine held_load (fuel := 9) (i := 61) (t := 26) (v := romV r (.slice aa r.a.data.length ca) (.slice ab r.b.data.length cb)) rfl rfl rfl (by kernel_rfl) (by kernel_rfl) (by kernel_rfl) rfl (fun _ _ _ h => h) (fun w' hw' => load_rom (IB w' hw').box) hS ?_
          go_simp
          refine held_any (fuel := 8) (i := 62) (v := .slice ap ws.length cp) rfl (by kernel_rfl) (by kernel_rfl) (by kernel_rfl) rfl (fun _ _ _ h => h) (fun _ _ => rfl) hS ?_
          go_simp
          refine held_any (fuel := 7) (i := 63) (v := .int .i64 n) rfl (by kernel_rfl) (by kernel_rfl) (by kernel_rfl) rfl (fun _ _ _ h => h) (fun _ _ => rfl) hS ?_
          go_simp
          refine wpAnyH_ready (rs := [64]) (by kernel_rfl) (by simp) ?_
          refine AllReadyH.cons rfl (fun K hK => ?_) AllReadyH.nil
          go_simp
          refine (play_spec _ _ r ws n _ (IB _ hS).rom ((IB _ hS).pln.mono (by have := (IB _ hS).box.z; omega)) H1.out.2.2.2.2.1 (by omega)).mono ?_
          rintro e w5 ⟨g3, g4, rfl, o3, o4, ok3, b5⟩
          rw [HT.out] at o3 o4 ok3 ⊢
          have t5 := str_run o3.at
          have hS5 : Below wY.heap.size wY w5 := hS.trans (b5.mono hS.size)
          have HB5 : Hid (Below w.heap.size w w5) := (IB _ hS5).bel
          obtain ⟨a3, k3, rfl⟩ := own_size o3
          obtain ⟨a4, k4, rfl⟩ := own_size o4
          refine hK.out _ _ hS5 (fun _ => ?_)
          clear hK K o3 o4 ok3 b5
          simp only [romV]
          go_simp
          refine held_any (fuel := 5) (i := 65) (v := .agg #[.int .u8 (r'.a.mark : Int), .int .u8 (r'.a.turn : Int), .slice a3 r'.a.data.length k3]) rfl (by kernel_rfl) (by kernel_rfl) (by kernel_rfl) rfl (fun _ _ _ h => h) (fun _ _ => rfl) hS5 ?_
          go_simp
          refine held_any (fuel := 4) (i := 66) (v := .slice a3 r'.a.data.length k3) rfl (by kernel_rfl) (by kernel_rfl) (by kernel_rfl) rfl (fun _ _ _ h => h) (fun _ _ => rfl) hS5 ?_
          go_simp
          refine wpAnyH_ready (rs := [67]) (by kernel_rfl) (by simp) ?_
          refine AllReadyH.cons rfl (fun K hK => ?_) AllReadyH.nil
          rw [if_pos (by rfl)]
          refine op_conv rfl t5 ?_
          refine hK.out _ _ hS5 (fun _ => ?_)
          clear hK K
          go_simp
          refine held_any (fuel := 2) (i := 68) (v := .bool true) rfl (by kernel_rfl) (by kernel_rfl) (by kernel_rfl) rfl (fun _ _ _ h => h) (fun _ _ => by go_simp) hS5 ?_
          go_simp
          refine held_any (fuel := 1) (i := 69) (v := .bool true) rfl (by kernel_rfl) (by kernel_rfl) (by kernel_rfl) rfl (fun _ _ _ h => h) (fun _ _ => by go_simp) hS5 ?_
          go_simp
          refine held_any (fuel := 0) (i := 70) (v := .bool true) rfl (by kernel_rfl) (by kernel_rfl) (by kernel_rfl) rfl (fun _ _ _ h => h) (fun _ _ => rfl) hS5 ?_
          go_simp
          refine wpAnyH_done (by kernel_rfl) ?_ _
          clear IB IY IG1 IG2 hS hS5 t5
          go_wp2_with fail
          go_ret
          exact ⟨rfl, HB5.out⟩

end Go.Proofs.Ytdhoimjkgicneab
