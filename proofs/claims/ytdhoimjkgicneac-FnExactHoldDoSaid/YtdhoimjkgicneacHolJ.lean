/- The program's HoldPlay. -/
import Derived.Test.YtdhoimjkgicneacHolI
namespace Go.Proofs.Ytdhoimjkgicneac
open Go Go.RowKit

/-- A slice that holds writes, in a block below B. -/
def WritesIn (B : Nat) (v : Value) (ws : List Wr) (w : World) : Prop :=
  (∃ b off cap : Nat, v = .slice (some ⟨b, off, none⟩) ws.length cap ∧ b < B ∧ ws.length ≤ cap ∧ ∀ (i : Nat) (x : Wr), ws[i]? = some x → w.cell? ⟨b, off + i * 3, none⟩ = some (.int .i64 x.kind) ∧ w.cell? ⟨b, off + i * 3 + 1, none⟩ = some (.int .i64 x.slot) ∧ w.cell? ⟨b, off + i * 3 + 2, none⟩ = some (.int .u8 (x.byte : Int))) ∨
  (ws = [] ∧ ∃ (a : Option Addr) (cap : Nat), v = .slice a 0 cap)

theorem WritesIn.below {B : Nat} {v : Value} {ws : List Wr} {w w' : World} (h : WritesIn B v ws w) (hb : Below B w w') : WritesIn B v ws w' := by
  rcases h with ⟨b, off, cap, rfl, hz, hc, he⟩ | h
  · refine Or.inl ⟨b, off, cap, rfl, hz, hc, fun i x hx => ?_⟩
    obtain ⟨h1, h2, h3⟩ := he i x hx
    exact ⟨(hb.cell (p := ⟨b, _, none⟩) hz).trans h1, (hb.cell (p := ⟨b, _, none⟩) hz).trans h2, (hb.cell (p := ⟨b, _, none⟩) hz).trans h3⟩
  · exact Or.inr h

theorem WritesIn.len {B : Nat} {v : Value} {ws : List Wr} {w : World} (h : WritesIn B v ws w) : ∃ (a : Option Addr) (cap : Nat), v = .slice a ws.length cap := by
  rcases h with ⟨b, off, cap, rfl, -, -, -⟩ | ⟨rfl, a, cap, rfl⟩
  · exact ⟨_, _, rfl⟩
  · exact ⟨_, _, rfl⟩

theorem ArmAt.mono {S lo hi lo' hi' F : Nat} {cap : Array Value} {x : Wr} {w w' : World} (h : ArmAt S lo hi F cap x w) (h1 : lo' ≤ lo) (h2 : hi ≤ hi') (hb : Below hi w w') : ArmAt S lo' hi' F cap x w' := by
  rcases h with h | ⟨V, P, o, v1, v2, p1, p2, hs, cv, cp, hk⟩
  · exact Or.inl h
  · exact Or.inr ⟨V, P, o, by omega, by omega, by omega, by omega, hs, (hb.cell (p := ⟨V, 0, none⟩) v2).trans cv, (hb.cell (p := ⟨P, 2, none⟩) p2).trans cp, hk⟩

theorem Armed.mono {S lo hi lo' hi' : Nat} {w w' : World} (h1 : lo' ≤ lo) (h2 : hi ≤ hi') (hb : Below hi w w') : ∀ {ds : List Deferred} {ws : List Wr}, Armed S lo hi w ds ws → Armed S lo' hi' w' ds ws
  | [], [], _ => trivial
  | _ :: _, _ :: _, ⟨⟨F, cap, e, ha⟩, h⟩ => ⟨⟨F, cap, e, ha.mono h1 h2 hb⟩, Armed.mono h1 h2 hb h⟩
  | [], _ :: _, h => h.elim
  | _ :: _, [], h => h.elim

theorem StAt.below {base S : Nat} {g : Int} {r : Ro} {da db : Value} {w w' : World} (h : StAt base S g r da db w) (hb : Below w.heap.size w w') : StAt base S g r da db w' :=
  ⟨h.bS, h.box.below hb h.box.z, (hb.cell (p := ⟨S, 0, none⟩) h.box.z).trans h.c0, fun i => (hb.frozen (p := ⟨S, i, none⟩) h.box.z).trans (h.fr i), h.oa.below hb (Nat.le_refl _), h.ob.below hb (Nat.le_refl _), h.na, h.nb, h.nn⟩

set_option maxRecDepth 100000 in
set_option maxHeartbeats 1600000 in
theorem play_any {base S : Nat} {r : Ro} {da db v : Value} {ws : List Wr} {w : World} (h : StAt base S 0 r da db w) (ok : RoOk r) (hv : WritesIn base v ws w) (hb : ∀ x ∈ ws, x.byte ≤ 255) (hl : ws.length ≤ 2000000) :
    Calls Try.prog 53 #[.pointer (some ⟨S, 0, none⟩), v] w fun e w' => e = .returned (.tuple #[]) ∧ ∃ da' db', StAt base S 0 (r.play ws) da' db' w' ∧ Below base w w' := by
  have c0 := h.c0
  have f0 := h.fr 0
  have HV : Hid (WritesIn base v ws w) := hv
  have HH : Hid (StAt base S 0 r da db w ∧ RoOk r ∧ ∀ x ∈ ws, x.byte ≤ 255) := ⟨h, ok, hb⟩
  obtain ⟨a, cap, rfl⟩ := hv.len
  clear h ok hv hb
  go_enter_defers Try.func53, Try.ntmps53
  go_wp2_with (go_at_call 79; refine (Go.MuLone.lock_free muLib ⟨S, 0, none⟩ _ c0 f0).mono ?_; rintro e w' ⟨rfl, rfl⟩)
  obtain ⟨w1, hw1⟩ : ∃ w1, w1 = w.setCell ⟨S, 0, none⟩ (.int .i32 1) := ⟨_, rfl⟩
  have H1 : Hid (StAt base S 1 r da db w1 ∧ Below base w w1 ∧ WritesIn base (.slice a ws.length cap) ws w1) := by
    have b1 : Below base w w1 := by rw [hw1]; exact (Below.refl base w).setCell HH.out.1.bS _
    exact ⟨by rw [hw1]; exact HH.out.1.guard 1, b1, HV.out.below b1⟩
  rw [← hw1]
  clear hw1 c0 f0 HV
  refine wp_loop (fun a' w' => ∃ (k : Nat) (x5 x16 x17 x18 x19 x20 x21 x22 x23 x24 x25 x26 : Value) (ds : List Deferred),
      a' = { tmps := #[.pointer (some ⟨S, 0, none⟩), .slice a ws.length cap, undef, undef, .int .i64 ((k : Int) - 1), x5, .pointer (some ⟨S, 0, none⟩), .pointer (some ⟨S, 0, none⟩), .pointer (some ⟨S, 0, none⟩), .tuple #[], .pointer (some ⟨S, 0, none⟩), .pointer (some ⟨S, 0, none⟩), .pointer (some ⟨S, 0, none⟩), .slice a ws.length cap, .int .i64 ws.length, .int .i64 ((ws.length : Int) - 1), x16, x17, x18, x19, x20, x21, x22, x23, x24, x25, x26],
             defers := ds ++ [{ target := .fn (.func 80) #[], args := #[.pointer (some ⟨S, 0, none⟩)] }] } ∧
      k ≤ ws.length ∧ Armed S w1.heap.size w'.heap.size w' ds (ws.drop k) ∧ Below w1.heap.size w1 w')
    (fun a' _ => (intOf (a'.tmps.getD 4 undef) + 1).toNat) ?_ ?_
  · exact ⟨ws.length, undef, undef, undef, undef, undef, undef, undef, undef, undef, undef, undef, undef, [], rfl, Nat.le_refl _, by rw [List.drop_length]; trivial, Below.refl _ _⟩
  · rintro a' w2 ⟨k, x5, x16, x17, x18, x19, x20, x21, x22, x23, x24, x25, x26, ds, rfl, hk, hA, hb⟩
    have HA : Hid (Armed S w1.heap.size w2.heap.size w2 ds (ws.drop k) ∧ Below w1.heap.size w1 w2) := ⟨hA, hb⟩
    clear hA hb
    by_cases h0 : k = 0
    · subst h0
      go_wp2_with fail
      have hz : base ≤ w1.heap.size := by have := H1.out.1.bS; have := H1.out.1.box.z; omega
      have hs2 := HA.out.2.size
      refine leaves_arms (base := base) (S := S) (lo := w1.heap.size) (hi := w2.heap.size) (w0 := w2) ws ds (by simpa using HA.out.1) HH.out.2.2 r da db w2 ?_ ?_
      · exact ⟨H1.out.1.below HA.out.2, fun k hk => Or.inl (own_lt H1.out.1.oa hk), fun k hk => Or.inl (own_lt H1.out.1.ob hk), fun _ _ _ => rfl, Below.refl _ _, Nat.le_refl _, H1.out.1.box.z, HH.out.2.1⟩
      · intro da' db' w' h'
        refine leaves_cons (f := 80) (args := #[.pointer (some ⟨S, 0, none⟩)]) (by simp) (by simp [go_sem]) ?_
        refine (Go.MuLone.unlock_deferred muLib ⟨S, 0, none⟩ .returning _ h'.st.c0 (h'.st.fr 0)).mono ?_
        rintro e u' w'' ⟨rfl, rfl, rfl⟩
        exact ⟨_, results_none rfl _ _ _, rfl, da', db', h'.st.guard 0, ((H1.out.2.1.trans (HA.out.2.mono hz)).trans h'.bel).setCell h'.st.bS _⟩
    · obtain ⟨j, rfl⟩ : ∃ j, k = j + 1 := ⟨k - 1, by omega⟩
      have hj : j < ws.length := by omega
      have ej : ((j + 1 : Nat) : Int) - 1 = (j : Int) := by omega
      rw [ej]
      have hz : base ≤ w1.heap.size := by have := H1.out.1.bS; have := H1.out.1.box.z; omega
      obtain ⟨x, hx⟩ : ∃ x, ws[j]? = some x := ⟨_, List.getElem?_eq_getElem hj⟩
      have hw2 := H1.out.2.2.below (HA.out.2.mono hz)
      rcases hw2 with ⟨b, off, cap', e, hb', hc', he⟩ | ⟨rfl, -⟩
      rotate_left
      · simp at hj
      injection e with e1 e2 e3
      subst e1 e3
      obtain ⟨q0, q1, q2⟩ := he j x hx
      have HX : Hid (ws.drop j = x :: ws.drop (j + 1)) := by
        rw [List.getElem?_eq_getElem hj] at hx
        injection hx with hx
        rw [← hx]
        exact (List.getElem_cons_drop hj).symm
      clear he hx
      go_wp2_with fail
      refine (writer_any S x w2).mono ?_
      rintro e w3 ⟨F, cp, rfl, ha, hb3⟩
      have H3 : Hid (ArmAt S w2.heap.size w3.heap.size F cp x w3 ∧ Below w2.heap.size w2 w3) := ⟨ha, hb3⟩
      clear ha hb3 q0 q1 q2 e2
      go_wp2_with fail
      refine ⟨⟨j, _, _, _, _, _, _, _, _, _, _, _, _, { target := .fn (.func F) cp, args := #[] } :: ds, rfl, by omega, ?_, ?_⟩, ?_⟩
      · rw [HX.out]
        exact ⟨⟨F, cp, rfl, H3.out.1.mono HA.out.2.size (Nat.le_refl _) (Below.refl _ _)⟩, HA.out.1.mono (Nat.le_refl _) H3.out.2.size H3.out.2⟩
      · exact HA.out.2.trans (H3.out.2.mono HA.out.2.size)
      · show ((j : Int) - 1 + 1).toNat < ((j : Int) + 1).toNat
        omega

end Go.Proofs.Ytdhoimjkgicneac
