/- How a machine begins: the program's Started. -/
import Derived.Test.YtobaeenngffndaaSd1
import Derived.Deep.RegionWith
import Derived.Deep.RegionHeld
namespace Go.Proofs.Ytobaeenngffndaa
namespace Pg
open Go.ChangeShapes Go.WideShapes Go.ChangeAt Go.RowKit St

def zeroM : Mc := ⟨[], [], [], 0, 0⟩
def StdAns (m : Mc) (q : Bool) (w : World) (e : Ending) (w' : World) : Prop := ∃ a1 c1 a2 c2 a3 c3, e = .returned (.tuple #[.agg #[.slice a1 m.heap.length c1, .slice a2 m.frames.length c2, .slice a3 m.said.length c3, .int .i64 m.fin, .int .i64 m.code], .bool q]) ∧ MZ (fun k => w.heap.size ≤ k ∧ k < w'.heap.size) w' (.slice a1 m.heap.length c1) (.slice a2 m.frames.length c2) (.slice a3 m.said.length c3) m ∧ Below w.heap.size w w'
def startF (p : Prg) : Mc × Bool := if okP p then (startM p, true) else (zeroM, false)
theorem OZ.one {F : Nat → Prop} {w : World} {g c : Nat} {cls : Int} {v : Value} {fl : List Vl} (h : Cells w g [.int .i64 cls, v]) (hv : VZ F w v fl) (hF : ¬ F g) : OZ (fun k => k = g ∨ F k) w (.slice (some ⟨g, 0, none⟩) 1 c) [⟨cls, fl⟩] := by
  refine .inl ⟨g, c, fun i j k => i = 0 ∧ j = 0 ∧ F k, rfl, .inl rfl, cell_lt h.g0.1, fun i hi => ?_, fun i j k hT => ⟨.inr hT.2.2, fun e => hF (e ▸ hT.2.2)⟩, fun i j i' j' k h1 h2 => ⟨h1.1.trans h2.1.symm, h1.2.1.trans h2.2.1.symm⟩, fun i x hx => ?_⟩
  · match i, hi with
    | 0, _ => exact ⟨⟨_, h.g0.1⟩, h.g0.2⟩
    | 1, _ => exact ⟨⟨_, h.g1.1⟩, h.g1.2⟩
  · match i with
    | 0 =>
      simp at hx
      subst hx
      exact ⟨v, h.g0.1, h.g1.1, hv.weak fun k hk => ⟨rfl, rfl, hk⟩⟩
    | i + 1 => simp at hx
theorem FZ.one {F : Nat → Prop} {w : World} {g c : Nat} {cls nm pos : Int} {v : Value} {lo : List Vl} (h : Cells w g [.int .i64 cls, .int .i64 nm, .int .i64 pos, .slice none 0 0, v]) (hv : VZ F w v lo) (hF : ¬ F g) : FZ (fun k => k = g ∨ F k) w (.slice (some ⟨g, 0, none⟩) 1 c) [⟨cls, nm, pos, [], lo⟩] := by
  refine .inl ⟨g, c, fun i j k => i = 0 ∧ j = 1 ∧ F k, rfl, .inl rfl, cell_lt h.g0.1, fun i hi => ?_, fun i j k hT => ⟨.inr hT.2.2, fun e => hF (e ▸ hT.2.2)⟩, fun i j i' j' k h1 h2 => ⟨h1.1.trans h2.1.symm, h1.2.1.trans h2.2.1.symm⟩, fun i x hx => ?_⟩
  · match i, hi with
    | 0, _ => exact ⟨⟨_, h.g0.1⟩, h.g0.2⟩
    | 1, _ => exact ⟨⟨_, h.g1.1⟩, h.g1.2⟩
    | 2, _ => exact ⟨⟨_, h.g2.1⟩, h.g2.2⟩
    | 3, _ => exact ⟨⟨_, h.g3.1⟩, h.g3.2⟩
    | 4, _ => exact ⟨⟨_, h.g4.1⟩, h.g4.2⟩
  · match i with
    | 0 =>
      simp at hx
      subst hx
      exact ⟨.slice none 0 0, v, h.g0.1, h.g1.1, h.g2.1, h.g3.1, h.g4.1, .inr ⟨rfl, rfl⟩, hv.weak fun k hk => ⟨rfl, rfl, hk⟩⟩
    | i + 1 => simp at hx
theorem MZ.zero (S : Nat → Prop) (w : World) : MZ S w (.slice none 0 0) (.slice none 0 0) (.slice none 0 0) zeroM :=
  ⟨fun _ => False, fun _ => False, fun _ => False, fun _ h => h.elim, fun _ h => h.elim, fun _ h => h.elim, fun _ h => h.elim, fun _ h => h.elim, fun _ h => h.elim, .inr ⟨rfl, rfl⟩, .inr ⟨rfl, rfl⟩, .inr ⟨rfl, rfl⟩⟩
/-- All rows of a machine that begins. -/
theorem MZ.start {p : Prg} {F G : Nat → Prop} {w V : World} {b gh gr c1 c2 : Nat} {vf vl : Value} {fl : List Vl} (hfl : fl = (fieldsR p 6 0).map valF) (h1 : Cells V gh [.int .i64 0, vf]) (h2 : VZ F V vf fl) (h3 : Cells V gr [.int .i64 0, .int .i64 0, .int .i64 0, .slice none 0 0, vl]) (h4 : VZ G V vl (frmV [(2, 0)]))
    (hF : ∀ k, F k → b < k ∧ k < V.heap.size) (hG : ∀ k, G k → b < k ∧ k < V.heap.size) (hFG : ∀ k, F k → ¬ G k) (hgh : b < gh) (hgr : b < gr) (hne : gh ≠ gr) (f1 : ¬ F gh) (f2 : ¬ F gr) (g1 : ¬ G gh) (g2 : ¬ G gr) {V' : World} (ht : Tch (fun k => k = b) V V') (hb : w.heap.size ≤ b) :
    MZ (fun k => w.heap.size ≤ k ∧ k < V'.heap.size) V' (.slice (some ⟨gh, 0, none⟩) 1 c1) (.slice (some ⟨gr, 0, none⟩) 1 c2) (.slice none 0 0) (startM p) := by
  subst hfl
  have l1 : gh < V.heap.size := cell_lt h1.g0.1
  have l2 : gr < V.heap.size := cell_lt h3.g0.1
  have hz := ht.size
  refine ⟨fun k => k = gh ∨ F k, fun k => k = gr ∨ G k, fun _ => False, fun k hk => ?_, fun k hk => ?_, fun _ h => h.elim, fun k hk hk2 => ?_, fun _ _ h => h, fun _ _ h => h, (OZ.one h1 h2 f1).tch ht (fun k hk e => ?_), (FZ.one h3 h4 g2).tch ht (fun k hk e => ?_), .inr ⟨rfl, rfl⟩⟩
  · rcases hk with rfl | hk
    · exact ⟨by omega, by omega⟩
    · have := hF k hk; exact ⟨by omega, by omega⟩
  · rcases hk with rfl | hk
    · exact ⟨by omega, by omega⟩
    · have := hG k hk; exact ⟨by omega, by omega⟩
  · rcases hk with rfl | hk
    · rcases hk2 with e | hk2
      · exact hne e
      · exact g1 hk2
    · rcases hk2 with rfl | hk2
      · exact f2 hk
      · exact hFG k hk hk2
  · rcases hk with rfl | hk
    · omega
    · have := hF k hk; omega
  · rcases hk with rfl | hk
    · omega
    · have := hG k hk; omega
/-- The boxes that a region reads. -/
def StS (k1 k2 : Nat) (l1 l2 : List Value) (y : World) : Prop := Cells y k1 l1 ∧ Cells y k2 l2
theorem StS.on {k1 k2 : Nat} {l1 l2 : List Value} {u w : World} (h : StS k1 k2 l1 l2 u) (hb : Below u.heap.size u w) : StS k1 k2 l1 l2 w := ⟨h.1.on hb, h.2.on hb⟩
theorem StS.far {k1 k2 : Nat} {l1 l2 : List Value} {u : World} (h : StS k1 k2 l1 l2 u) (q : Addr) (v : Value) (h1 : q.block ≠ k1) (h2 : q.block ≠ k2) : StS k1 k2 l1 l2 (u.setCell q v) := ⟨h.1.far q v h1, h.2.far q v h2⟩
set_option maxRecDepth 100000 in
set_option maxHeartbeats 4000000 in
theorem implStarted (B : Nat) (p : Prg) (a : Option Addr) (cap : Nat) (hs : SmallP p) (w : World) (hp : SK front B w (.slice a p.length cap) p) :
    Calls Try.prog 13 #[.agg #[.slice a p.length cap]] w fun e w' => StdAns (startF p).1 (startF p).2 w e w' := by
  have HP : Hid (SK front B w (.slice a p.length cap) p) := hp
  have HS : Hid (SmallP p) := hs
  clear hp hs
  obtain ⟨W, hW⟩ : ∃ W, W = (w.alloc (.cells #[.slice a p.length cap] 44)).alloc (.cells #[.slice none 0 0, .slice none 0 0, .slice none 0 0, .int .i64 0, .int .i64 0] 32) := ⟨_, rfl⟩
  have hwW : Below w.heap.size w W := by rw [hW]; exact ((Below.refl _ _).alloc (Nat.le_refl _) _).alloc (by simp) _
  have P0 : Hid (Cells W w.heap.size [.slice a p.length cap]) := by rw [hW]; exact (Cells.new w _ rfl _ _).alloc _
  have R0 : Hid (Cells W (w.heap.size + 1) [.slice none 0 0, .slice none 0 0, .slice none 0 0, .int .i64 0, .int .i64 0]) := by rw [hW]; exact Cells.new (w.alloc _) _ (by simp) _ _
  have HZ : Hid (W.heap.size = w.heap.size + 1 + 1) := by rw [hW]; show _ = _; simp
  go_enter Try.func13, Try.ntmps13
  go_wp2_with fail
  rw [← hW]
  clear hW
  refine (implProgramOk B p a cap HS.out _ (SK.on HP.out (Keep.of hwW))).mono ?_
  rintro e w1 ⟨rfl, hb1⟩
  have hw1 : Below w.heap.size w w1 := below_over hwW hb1
  have P1 : Hid (Cells w1 w.heap.size [.slice a p.length cap]) := P0.out.on hb1
  have R1 : Hid (Cells w1 (w.heap.size + 1) [.slice none 0 0, .slice none 0 0, .slice none 0 0, .int .i64 0, .int .i64 0]) := R0.out.on hb1
  have hz1 : w.heap.size + 1 + 1 ≤ w1.heap.size := by have := HZ.out; have := hb1.size; omega
  clear hb1
  cases hok : okP p
  · have HF : Hid (startF p = (zeroM, false)) := by show _ = _; simp [startF, hok]
    obtain ⟨r0, q0⟩ := R1.out.g0
    obtain ⟨r1, q1⟩ := R1.out.g1
    obtain ⟨r2, q2⟩ := R1.out.g2
    obtain ⟨r3, q3⟩ := R1.out.g3
    obtain ⟨r4, q4⟩ := R1.out.g4
    have R5 := ((((R1.out.s0 (.slice none 0 0)).s1 (.slice none 0 0)).s2 (.slice none 0 0)).s3 (.int .i64 0)).s4 (.int .i64 0)
    obtain ⟨e0, _⟩ := R5.g0
    obtain ⟨e1, _⟩ := R5.g1
    obtain ⟨e2, _⟩ := R5.g2
    obtain ⟨e3, _⟩ := R5.g3
    obtain ⟨e4, _⟩ := R5.g4
    clear R5 hok
    go_wp2
    refine bodyPost_ret (v := .tuple #[.agg #[.slice none 0 0, .slice none 0 0, .slice none 0 0, .int .i64 0, .int .i64 0], .bool false]) (by simp [results, Try.results13, go_sem, e0, e1, e2, e3, e4]) rfl ?_
    rw [HF.out]
    refine ⟨none, 0, none, 0, none, 0, rfl, MZ.zero _ _, ?_⟩
    exact ((((hw1.setCell (p := ⟨w.heap.size + 1, 0, none⟩) (by simp) _).setCell (p := ⟨w.heap.size + 1, 1, none⟩) (by simp) _).setCell (p := ⟨w.heap.size + 1, 2, none⟩) (by simp) _).setCell (p := ⟨w.heap.size + 1, 3, none⟩) (by simp) _).setCell (p := ⟨w.heap.size + 1, 4, none⟩) (by simp) _
  · have HF : Hid (startF p = (startM p, true)) := by show _ = _; simp [startF, hok]
    have HOK : Hid (okP p = true) := hok
    have hpl := (okP_len hok).1
    clear hok
    have HSL : Hid (SV true 0 (w1.alloc (.cells #[.int .i64 2, .int .i64 0] 79)) (.slice (some ⟨w1.heap.size, 0, none⟩) ([(2, 0)] : List Vl).length 1) [(2, 0)]) := by
      refine ⟨_, 1, rfl, fun _ h => by simp at h, fun _ => ⟨w1.heap.size, 0, rfl, Nat.zero_le _, ⟨by simp, fun _ j hj => ?_⟩, fun j x hj => ?_⟩⟩
      · simp [go_sem]
      · match j with
        | 0 => simp at hj; subst hj; exact ⟨by simp [go_sem], by simp [go_sem]⟩
        | j + 1 => simp at hj
    go_wp2_with fail
    refine (freshFrame_at 0 0 0 ⟨w1.heap.size, 0, none⟩ 1 [(2, 0)] (by simp) _ HSL.out).mono ?_
    rintro e w2 ⟨x, y, rfl, hv2, hb2⟩
    have hw2 : Below w.heap.size w w2 := below_over (hw1.alloc hw1.size _) hb2
    have hz2 : w1.heap.size + 1 ≤ w2.heap.size := by have := hb2.size; simpa using this
    have P2 : Hid (Cells w2 w.heap.size [.slice a p.length cap]) := (P1.out.alloc _).on hb2
    have R2 : Hid (Cells w2 (w.heap.size + 1) [.slice none 0 0, .slice none 0 0, .slice none 0 0, .int .i64 0, .int .i64 0]) := (R1.out.alloc _).on hb2
    have HV2 : Hid (VZ (fun k => w1.heap.size < k ∧ k < w2.heap.size) w2 (.slice x 8 y) (frmV [(2, 0)])) := hv2.weak fun k hk => ⟨by have := hk.1; simp at this; omega, hk.2⟩
    clear hv2 hb2 HSL P1 R1
    obtain ⟨X, hX⟩ : ∃ X, X = w2.alloc (.cells #[.int .i64 0, .int .i64 0, .int .i64 0, .slice none 0 0, .slice x 8 y] 59) := ⟨_, rfl⟩
    have hbX : Below w2.heap.size w2 X := by rw [hX]; exact (Below.refl _ _).alloc (Nat.le_refl _) _
    have hwX : Below w.heap.size w X := below_over hw2 hbX
    have hzX : X.heap.size = w2.heap.size + 1 := by rw [hX]; simp
    have HZX : Hid (X.heap.size = w2.heap.size + 1) := hzX
    have PX : Hid (Cells X w.heap.size [.slice a p.length cap]) := P2.out.on hbX
    have RX : Hid (Cells X (w.heap.size + 1) [.slice none 0 0, .slice none 0 0, .slice none 0 0, .int .i64 0, .int .i64 0]) := R2.out.on hbX
    have FX : Hid (Cells X w2.heap.size [.int .i64 0, .int .i64 0, .int .i64 0, .slice none 0 0, .slice x 8 y]) := by rw [hX]; exact Cells.new w2 _ rfl _ _
    have HVX : Hid (VZ (fun k => w1.heap.size < k ∧ k < w2.heap.size) X (.slice x 8 y) (frmV [(2, 0)])) := HV2.out.on hbX
    clear hzX hbX P2 R2 HV2
    obtain ⟨b, o, rfl, _⟩ := HP.out.get (k := 0) (by omega)
    obtain ⟨p0, _⟩ := PX.out.g0
    obtain ⟨k0, _⟩ := FX.out.g0
    obtain ⟨k1, _⟩ := FX.out.g1
    obtain ⟨k2, _⟩ := FX.out.g2
    obtain ⟨k3, _⟩ := FX.out.g3
    obtain ⟨k4, _⟩ := FX.out.g4
    obtain ⟨r0, q0⟩ := RX.out.g0
    obtain ⟨r1, q1⟩ := RX.out.g1
    obtain ⟨r2, q2⟩ := RX.out.g2
    obtain ⟨r3, q3⟩ := RX.out.g3
    obtain ⟨r4, q4⟩ := RX.out.g4
    rw [hX] at p0 k0 k1 k2 k3 k4 r0 q0 r1 q1 r2 q2 r3 q3 r4 q4
    go_wp2_with fail
    rw [← hX]
    rw [← hX] at p0 k0 k1 k2 k3 k4 r0 q0 r1 q1 r2 q2 r3 q3 r4 q4
    clear hX
    obtain ⟨fl, hfl⟩ : ∃ fl, fl = (fieldsR p 6 0).map valF := ⟨_, rfl⟩
    have HFL : Hid (fl = (fieldsR p 6 0).map valF) := hfl
    have HCO : Hid (∀ u, Below w.heap.size w u → Calls Try.prog 43 #[.agg #[.slice (some ⟨b, o, none⟩) p.length cap], .int .i64 0] u fun e w' => ∃ x y, e = .returned (.agg #[.int .i64 0, .slice x fl.length y]) ∧ VZ (fun k => u.heap.size < k ∧ k < w'.heap.size) w' (.slice x fl.length y) fl ∧ Below u.heap.size u w') := fun u hu => by
      rw [hfl]
      exact freshObject_at B p b o cap 0 HOK.out (by omega) u (SK.on HP.out (Keep.of hu))
    clear hfl
    have hlX : w2.heap.size < X.heap.size := cell_lt k0
    have hlR : w.heap.size + 1 < X.heap.size := cell_lt r0
    have hD0 : Below X.heap.size X X.drew := (Below.refl _ _).drew
    have HST : Hid (StS w.heap.size w2.heap.size [.slice (some ⟨b, o, none⟩) p.length cap] [.int .i64 0, .int .i64 0, .int .i64 0, .slice none 0 0, .slice x 8 y] X.drew) := ⟨PX.out.on hD0, FX.out.on hD0⟩
    have HRD : Hid (∀ y', StS w.heap.size w2.heap.size [.slice (some ⟨b, o, none⟩) p.length cap] [.int .i64 0, .int .i64 0, .int .i64 0, .slice none 0 0, .slice x 8 y] y' → y'.cell? ⟨w.heap.size, 0, none⟩ = some (.slice (some ⟨b, o, none⟩) p.length cap) ∧ y'.cell? ⟨w2.heap.size, 0, none⟩ = some (.int .i64 0) ∧ y'.cell? ⟨w2.heap.size, 1, none⟩ = some (.int .i64 0) ∧ y'.cell? ⟨w2.heap.size, 2, none⟩ = some (.int .i64 0) ∧ y'.cell? ⟨w2.heap.size, 3, none⟩ = some (.slice none 0 0) ∧ y'.cell? ⟨w2.heap.size, 4, none⟩ = some (.slice x 8 y)) := fun y' h => ⟨h.1.g0.1, h.2.g0.1, h.2.g1.1, h.2.g2.1, h.2.g3.1, h.2.g4.1⟩
    have HN1 : Hid (w.heap.size + 1 ≠ w.heap.size) := by show _ ≠ _; omega
    have HN2 : Hid (w.heap.size + 1 ≠ w2.heap.size) := by show _ ≠ _; omega
    clear p0 k0 k1 k2 k3 k4 r0 q0 r1 q1 r2 q2 r3 q3 r4 q4
    refine wp_region_held_drew (S := StS w.heap.size w2.heap.size [.slice (some ⟨b, o, none⟩) p.length cap] [.int .i64 0, .int .i64 0, .int .i64 0, .slice none 0 0, .slice x 8 y]) (by kernel_rfl) HST.out (fun hHeld => ?_)
    generalize X.drew = Q0 at hD0 hHeld HST ⊢
    have hwQ : Below w.heap.size w Q0 := below_over hwX hD0
    have hzQ : X.heap.size ≤ Q0.heap.size := hD0.size
    have HVQ : Hid (VZ (fun k => w1.heap.size < k ∧ k < w2.heap.size) Q0 (.slice x 8 y) (frmV [(2, 0)])) := HVX.out.on hD0
    have RQ : Hid (Cells Q0 (w.heap.size + 1) [.slice none 0 0, .slice none 0 0, .slice none 0 0, .int .i64 0, .int .i64 0]) := RX.out.on hD0
    clear HVX RX PX FX HST
    refine wpAnyH_take (i := 0) (v := ?_) rfl (by kernel_rfl) (by kernel_rfl) (by kernel_rfl) (fun _ _ _ h => h) (Or.inl ⟨by rfl, ?_⟩) hHeld ?_
    rotate_left 1
    · intro w' hSw
      obtain ⟨c0, c1, c2, c3, c4, c5⟩ := HRD.out _ hSw
      go_simp
      try with_reducible rfl
    simp only [Act.put]
    refine wpAnyH_take (i := 3) (v := ?_) rfl (by kernel_rfl) (by kernel_rfl) (by kernel_rfl) (fun _ _ _ h => h) (Or.inl ⟨by rfl, ?_⟩) hHeld ?_
    rotate_left 1
    · intro w' hSw
      obtain ⟨c0, c1, c2, c3, c4, c5⟩ := HRD.out _ hSw
      go_simp
      try with_reducible rfl
    simp only [Act.put]
    refine wpAnyH_ready (rs := [1, 4]) (by kernel_rfl) (by simp) ?_
    refine AllReadyH.cons rfl (fun K hK => ?_) (AllReadyH.cons rfl (fun K hK => ?_) AllReadyH.nil)
    · go_simp
      refine (HCO.out Q0 hwQ).mono ?_
      rintro e w3 ⟨x3, y3, rfl, hv3, hb3⟩
      dsimp only
      refine hK.out _ _ (hHeld.on hb3) (fun hHeld => ?_)
      clear hK K
      refine wpAnyH_ready (rs := [2, 4]) (by kernel_rfl) (by simp) ?_
      refine AllReadyH.cons rfl (fun K hK => ?_) (AllReadyH.cons rfl (fun K hK => ?_) AllReadyH.nil)
      · go_simp
        refine hK.out _ _ (hHeld.on ((Below.refl _ w3).alloc (Nat.le_refl _) (Obj.cells #[.int .i64 0, .slice x3 fl.length y3] 57))) (fun hHeld => ?_)
        clear hK K
        refine wpAnyH_ready (rs := [4]) (by kernel_rfl) (by simp) ?_
        refine AllReadyH.cons rfl (fun K hK => ?_) AllReadyH.nil
        go_simp
        refine hK.out _ _ (hHeld.on ((Below.refl _ (w3.alloc (Obj.cells #[.int .i64 0, .slice x3 fl.length y3] 57))).alloc (Nat.le_refl _) (Obj.cells #[.int .i64 0, .int .i64 0, .int .i64 0, .slice none 0 0, .slice x 8 y] 59))) (fun hHeld => ?_)
        clear hK K
        have hz3 : Q0.heap.size ≤ w3.heap.size := hb3.size
        have hbV : Below w3.heap.size w3 ((w3.alloc (Obj.cells #[.int .i64 0, .slice x3 fl.length y3] 57)).alloc (Obj.cells #[.int .i64 0, .int .i64 0, .int .i64 0, .slice none 0 0, .slice x 8 y] 59)) := ((Below.refl _ _).alloc (Nat.le_refl _) _).alloc (by simp) _
        have hVw : Below w.heap.size w ((w3.alloc (Obj.cells #[.int .i64 0, .slice x3 fl.length y3] 57)).alloc (Obj.cells #[.int .i64 0, .int .i64 0, .int .i64 0, .slice none 0 0, .slice x 8 y] 59)) := below_over (below_over hwQ hb3) hbV
        have hVs : ((w3.alloc (Obj.cells #[.int .i64 0, .slice x3 fl.length y3] 57)).alloc (Obj.cells #[.int .i64 0, .int .i64 0, .int .i64 0, .slice none 0 0, .slice x 8 y] 59)).heap.size = w3.heap.size + 1 + 1 := by simp
        have F1 : Hid (VZ (fun k => Q0.heap.size < k ∧ k < w3.heap.size) ((w3.alloc (Obj.cells #[.int .i64 0, .slice x3 fl.length y3] 57)).alloc (Obj.cells #[.int .i64 0, .int .i64 0, .int .i64 0, .slice none 0 0, .slice x 8 y] 59)) (.slice x3 fl.length y3) fl) := hv3.on hbV
        have G1 : Hid (VZ (fun k => w1.heap.size < k ∧ k < w2.heap.size) ((w3.alloc (Obj.cells #[.int .i64 0, .slice x3 fl.length y3] 57)).alloc (Obj.cells #[.int .i64 0, .int .i64 0, .int .i64 0, .slice none 0 0, .slice x 8 y] 59)) (.slice x 8 y) (frmV [(2, 0)])) := (HVQ.out.on hb3).on hbV
        have RV : Hid (Cells ((w3.alloc (Obj.cells #[.int .i64 0, .slice x3 fl.length y3] 57)).alloc (Obj.cells #[.int .i64 0, .int .i64 0, .int .i64 0, .slice none 0 0, .slice x 8 y] 59)) (w.heap.size + 1) [.slice none 0 0, .slice none 0 0, .slice none 0 0, .int .i64 0, .int .i64 0]) := (RQ.out.on hb3).on hbV
        have C1 : Hid (Cells ((w3.alloc (Obj.cells #[.int .i64 0, .slice x3 fl.length y3] 57)).alloc (Obj.cells #[.int .i64 0, .int .i64 0, .int .i64 0, .slice none 0 0, .slice x 8 y] 59)) (w3.heap.size) [.int .i64 0, .slice x3 fl.length y3]) := (Cells.new w3 _ rfl _ _).alloc _
        have C2 : Hid (Cells ((w3.alloc (Obj.cells #[.int .i64 0, .slice x3 fl.length y3] 57)).alloc (Obj.cells #[.int .i64 0, .int .i64 0, .int .i64 0, .slice none 0 0, .slice x 8 y] 59)) (w3.heap.size + 1) [.int .i64 0, .int .i64 0, .int .i64 0, .slice none 0 0, .slice x 8 y]) := Cells.new (w3.alloc _) _ (by simp) _ _
        have hzz := HZX.out
        obtain ⟨V, hV⟩ : ∃ V, V = ((w3.alloc (Obj.cells #[.int .i64 0, .slice x3 fl.length y3] 57)).alloc (Obj.cells #[.int .i64 0, .int .i64 0, .int .i64 0, .slice none 0 0, .slice x 8 y] 59)) := ⟨_, rfl⟩
        rw [← hV] at hHeld C1 C2 F1 G1 RV hVw hVs
        rw [← hV]
        clear hV
        refine wpAnyH_take (i := 5) (v := ?_) rfl (by kernel_rfl) (by kernel_rfl) (by kernel_rfl) (fun _ _ _ h => h) (Or.inl ⟨by rfl, ?_⟩) hHeld ?_
        rotate_left 1
        · intro w' hSw
          go_simp
          try with_reducible rfl
        simp only [Act.put]
        obtain ⟨r0, q0⟩ := RV.out.g0
        obtain ⟨r1, q1⟩ := RV.out.g1
        obtain ⟨r2, q2⟩ := RV.out.g2
        obtain ⟨r3, q3⟩ := RV.out.g3
        obtain ⟨r4, q4⟩ := RV.out.g4
        have R5 := ((((RV.out.s0 (.slice (some ⟨w3.heap.size, 0, none⟩) 1 1)).s1 (.slice (some ⟨w3.heap.size + 1, 0, none⟩) 1 1)).s2 (.slice none 0 0)).s3 (.int .i64 0)).s4 (.int .i64 0)
        obtain ⟨e0, _⟩ := R5.g0
        obtain ⟨e1, _⟩ := R5.g1
        obtain ⟨e2, _⟩ := R5.g2
        obtain ⟨e3, _⟩ := R5.g3
        obtain ⟨e4, _⟩ := R5.g4
        clear R5
        have HT : Hid (Tch (fun k => k = w.heap.size + 1) V (((((V.setCell ⟨w.heap.size + 1, 0, none⟩ (.slice (some ⟨w3.heap.size, 0, none⟩) 1 1)).setCell ⟨w.heap.size + 1, 1, none⟩ (.slice (some ⟨w3.heap.size + 1, 0, none⟩) 1 1)).setCell ⟨w.heap.size + 1, 2, none⟩ (.slice none 0 0)).setCell ⟨w.heap.size + 1, 3, none⟩ (.int .i64 0)).setCell ⟨w.heap.size + 1, 4, none⟩ (.int .i64 0))) := (((((Tch.set (S := fun k => k = w.heap.size + 1) V (p := ⟨w.heap.size + 1, 0, none⟩) rfl (.slice (some ⟨w3.heap.size, 0, none⟩) 1 1)).trans (Tch.set (S := fun k => k = w.heap.size + 1) _ (p := ⟨w.heap.size + 1, 1, none⟩) rfl (.slice (some ⟨w3.heap.size + 1, 0, none⟩) 1 1))).trans (Tch.set (S := fun k => k = w.heap.size + 1) _ (p := ⟨w.heap.size + 1, 2, none⟩) rfl (.slice none 0 0))).trans (Tch.set (S := fun k => k = w.heap.size + 1) _ (p := ⟨w.heap.size + 1, 3, none⟩) rfl (.int .i64 0))).trans (Tch.set (S := fun k => k = w.heap.size + 1) _ (p := ⟨w.heap.size + 1, 4, none⟩) rfl (.int .i64 0)))
        have HSX : Hid (StS w.heap.size w2.heap.size [.slice (some ⟨b, o, none⟩) p.length cap] [.int .i64 0, .int .i64 0, .int .i64 0, .slice none 0 0, .slice x 8 y] (((((V.setCell ⟨w.heap.size + 1, 0, none⟩ (.slice (some ⟨w3.heap.size, 0, none⟩) 1 1)).setCell ⟨w.heap.size + 1, 1, none⟩ (.slice (some ⟨w3.heap.size + 1, 0, none⟩) 1 1)).setCell ⟨w.heap.size + 1, 2, none⟩ (.slice none 0 0)).setCell ⟨w.heap.size + 1, 3, none⟩ (.int .i64 0)).setCell ⟨w.heap.size + 1, 4, none⟩ (.int .i64 0))) := (((((hHeld.far ⟨w.heap.size + 1, 0, none⟩ (.slice (some ⟨w3.heap.size, 0, none⟩) 1 1) HN1.out HN2.out).far ⟨w.heap.size + 1, 1, none⟩ (.slice (some ⟨w3.heap.size + 1, 0, none⟩) 1 1) HN1.out HN2.out).far ⟨w.heap.size + 1, 2, none⟩ (.slice none 0 0) HN1.out HN2.out).far ⟨w.heap.size + 1, 3, none⟩ (.int .i64 0) HN1.out HN2.out).far ⟨w.heap.size + 1, 4, none⟩ (.int .i64 0) HN1.out HN2.out)
        refine wpAnyH_ready (rs := [6]) (by kernel_rfl) (by simp) ?_
        refine AllReadyH.cons rfl (fun K hK => ?_) AllReadyH.nil
        go_simp
        refine hK.out _ _ HSX.out (fun hHeld => ?_)
        clear hK K
        refine wpAnyH_ready (rs := [7]) (by kernel_rfl) (by simp) ?_
        refine AllReadyH.cons rfl (fun K hK => ?_) AllReadyH.nil
        go_simp
        refine hK.out _ _ HSX.out (fun hHeld => ?_)
        clear hK K
        refine wpAnyH_done (by kernel_rfl) ?_ _
        go_wp2
        refine bodyPost_ret (v := .tuple #[.agg #[.slice (some ⟨w3.heap.size, 0, none⟩) 1 1, .slice (some ⟨w3.heap.size + 1, 0, none⟩) 1 1, .slice none 0 0, .int .i64 0, .int .i64 0], .bool true]) (by simp [results, Try.results13, go_sem, e0, e1, e2, e3, e4]) rfl ?_
        rw [HF.out]
        refine ⟨_, _, _, _, none, 0, rfl, MZ.start HFL.out C1.out F1.out C2.out G1.out (b := w.heap.size + 1) (fun k hk => ⟨by omega, by omega⟩) (fun k hk => ⟨by omega, by omega⟩) (fun k hk hk2 => by omega) (by omega) (by omega) (by omega) (by omega) (by omega) (by omega) (by omega) HT.out (by omega), hVw.trans (HT.out.below hVw.size (fun k hk => by omega))⟩
      · go_simp
        refine hK.out _ _ (hHeld.on ((Below.refl _ w3).alloc (Nat.le_refl _) (Obj.cells #[.int .i64 0, .int .i64 0, .int .i64 0, .slice none 0 0, .slice x 8 y] 59))) (fun hHeld => ?_)
        clear hK K
        refine wpAnyH_ready (rs := [2]) (by kernel_rfl) (by simp) ?_
        refine AllReadyH.cons rfl (fun K hK => ?_) AllReadyH.nil
        go_simp
        refine hK.out _ _ (hHeld.on ((Below.refl _ (w3.alloc (Obj.cells #[.int .i64 0, .int .i64 0, .int .i64 0, .slice none 0 0, .slice x 8 y] 59))).alloc (Nat.le_refl _) (Obj.cells #[.int .i64 0, .slice x3 fl.length y3] 57))) (fun hHeld => ?_)
        clear hK K
        have hz3 : Q0.heap.size ≤ w3.heap.size := hb3.size
        have hbV : Below w3.heap.size w3 ((w3.alloc (Obj.cells #[.int .i64 0, .int .i64 0, .int .i64 0, .slice none 0 0, .slice x 8 y] 59)).alloc (Obj.cells #[.int .i64 0, .slice x3 fl.length y3] 57)) := ((Below.refl _ _).alloc (Nat.le_refl _) _).alloc (by simp) _
        have hVw : Below w.heap.size w ((w3.alloc (Obj.cells #[.int .i64 0, .int .i64 0, .int .i64 0, .slice none 0 0, .slice x 8 y] 59)).alloc (Obj.cells #[.int .i64 0, .slice x3 fl.length y3] 57)) := below_over (below_over hwQ hb3) hbV
        have hVs : ((w3.alloc (Obj.cells #[.int .i64 0, .int .i64 0, .int .i64 0, .slice none 0 0, .slice x 8 y] 59)).alloc (Obj.cells #[.int .i64 0, .slice x3 fl.length y3] 57)).heap.size = w3.heap.size + 1 + 1 := by simp
        have F1 : Hid (VZ (fun k => Q0.heap.size < k ∧ k < w3.heap.size) ((w3.alloc (Obj.cells #[.int .i64 0, .int .i64 0, .int .i64 0, .slice none 0 0, .slice x 8 y] 59)).alloc (Obj.cells #[.int .i64 0, .slice x3 fl.length y3] 57)) (.slice x3 fl.length y3) fl) := hv3.on hbV
        have G1 : Hid (VZ (fun k => w1.heap.size < k ∧ k < w2.heap.size) ((w3.alloc (Obj.cells #[.int .i64 0, .int .i64 0, .int .i64 0, .slice none 0 0, .slice x 8 y] 59)).alloc (Obj.cells #[.int .i64 0, .slice x3 fl.length y3] 57)) (.slice x 8 y) (frmV [(2, 0)])) := (HVQ.out.on hb3).on hbV
        have RV : Hid (Cells ((w3.alloc (Obj.cells #[.int .i64 0, .int .i64 0, .int .i64 0, .slice none 0 0, .slice x 8 y] 59)).alloc (Obj.cells #[.int .i64 0, .slice x3 fl.length y3] 57)) (w.heap.size + 1) [.slice none 0 0, .slice none 0 0, .slice none 0 0, .int .i64 0, .int .i64 0]) := (RQ.out.on hb3).on hbV
        have C1 : Hid (Cells ((w3.alloc (Obj.cells #[.int .i64 0, .int .i64 0, .int .i64 0, .slice none 0 0, .slice x 8 y] 59)).alloc (Obj.cells #[.int .i64 0, .slice x3 fl.length y3] 57)) (w3.heap.size + 1) [.int .i64 0, .slice x3 fl.length y3]) := Cells.new (w3.alloc _) _ (by simp) _ _
        have C2 : Hid (Cells ((w3.alloc (Obj.cells #[.int .i64 0, .int .i64 0, .int .i64 0, .slice none 0 0, .slice x 8 y] 59)).alloc (Obj.cells #[.int .i64 0, .slice x3 fl.length y3] 57)) (w3.heap.size) [.int .i64 0, .int .i64 0, .int .i64 0, .slice none 0 0, .slice x 8 y]) := (Cells.new w3 _ rfl _ _).alloc _
        have hzz := HZX.out
        obtain ⟨V, hV⟩ : ∃ V, V = ((w3.alloc (Obj.cells #[.int .i64 0, .int .i64 0, .int .i64 0, .slice none 0 0, .slice x 8 y] 59)).alloc (Obj.cells #[.int .i64 0, .slice x3 fl.length y3] 57)) := ⟨_, rfl⟩
        rw [← hV] at hHeld C1 C2 F1 G1 RV hVw hVs
        rw [← hV]
        clear hV
        refine wpAnyH_take (i := 5) (v := ?_) rfl (by kernel_rfl) (by kernel_rfl) (by kernel_rfl) (fun _ _ _ h => h) (Or.inl ⟨by rfl, ?_⟩) hHeld ?_
        rotate_left 1
        · intro w' hSw
          go_simp
          try with_reducible rfl
        simp only [Act.put]
        obtain ⟨r0, q0⟩ := RV.out.g0
        obtain ⟨r1, q1⟩ := RV.out.g1
        obtain ⟨r2, q2⟩ := RV.out.g2
        obtain ⟨r3, q3⟩ := RV.out.g3
        obtain ⟨r4, q4⟩ := RV.out.g4
        have R5 := ((((RV.out.s0 (.slice (some ⟨w3.heap.size + 1, 0, none⟩) 1 1)).s1 (.slice (some ⟨w3.heap.size, 0, none⟩) 1 1)).s2 (.slice none 0 0)).s3 (.int .i64 0)).s4 (.int .i64 0)
        obtain ⟨e0, _⟩ := R5.g0
        obtain ⟨e1, _⟩ := R5.g1
        obtain ⟨e2, _⟩ := R5.g2
        obtain ⟨e3, _⟩ := R5.g3
        obtain ⟨e4, _⟩ := R5.g4
        clear R5
        have HT : Hid (Tch (fun k => k = w.heap.size + 1) V (((((V.setCell ⟨w.heap.size + 1, 0, none⟩ (.slice (some ⟨w3.heap.size + 1, 0, none⟩) 1 1)).setCell ⟨w.heap.size + 1, 1, none⟩ (.slice (some ⟨w3.heap.size, 0, none⟩) 1 1)).setCell ⟨w.heap.size + 1, 2, none⟩ (.slice none 0 0)).setCell ⟨w.heap.size + 1, 3, none⟩ (.int .i64 0)).setCell ⟨w.heap.size + 1, 4, none⟩ (.int .i64 0))) := (((((Tch.set (S := fun k => k = w.heap.size + 1) V (p := ⟨w.heap.size + 1, 0, none⟩) rfl (.slice (some ⟨w3.heap.size + 1, 0, none⟩) 1 1)).trans (Tch.set (S := fun k => k = w.heap.size + 1) _ (p := ⟨w.heap.size + 1, 1, none⟩) rfl (.slice (some ⟨w3.heap.size, 0, none⟩) 1 1))).trans (Tch.set (S := fun k => k = w.heap.size + 1) _ (p := ⟨w.heap.size + 1, 2, none⟩) rfl (.slice none 0 0))).trans (Tch.set (S := fun k => k = w.heap.size + 1) _ (p := ⟨w.heap.size + 1, 3, none⟩) rfl (.int .i64 0))).trans (Tch.set (S := fun k => k = w.heap.size + 1) _ (p := ⟨w.heap.size + 1, 4, none⟩) rfl (.int .i64 0)))
        have HSX : Hid (StS w.heap.size w2.heap.size [.slice (some ⟨b, o, none⟩) p.length cap] [.int .i64 0, .int .i64 0, .int .i64 0, .slice none 0 0, .slice x 8 y] (((((V.setCell ⟨w.heap.size + 1, 0, none⟩ (.slice (some ⟨w3.heap.size + 1, 0, none⟩) 1 1)).setCell ⟨w.heap.size + 1, 1, none⟩ (.slice (some ⟨w3.heap.size, 0, none⟩) 1 1)).setCell ⟨w.heap.size + 1, 2, none⟩ (.slice none 0 0)).setCell ⟨w.heap.size + 1, 3, none⟩ (.int .i64 0)).setCell ⟨w.heap.size + 1, 4, none⟩ (.int .i64 0))) := (((((hHeld.far ⟨w.heap.size + 1, 0, none⟩ (.slice (some ⟨w3.heap.size + 1, 0, none⟩) 1 1) HN1.out HN2.out).far ⟨w.heap.size + 1, 1, none⟩ (.slice (some ⟨w3.heap.size, 0, none⟩) 1 1) HN1.out HN2.out).far ⟨w.heap.size + 1, 2, none⟩ (.slice none 0 0) HN1.out HN2.out).far ⟨w.heap.size + 1, 3, none⟩ (.int .i64 0) HN1.out HN2.out).far ⟨w.heap.size + 1, 4, none⟩ (.int .i64 0) HN1.out HN2.out)
        refine wpAnyH_ready (rs := [6]) (by kernel_rfl) (by simp) ?_
        refine AllReadyH.cons rfl (fun K hK => ?_) AllReadyH.nil
        go_simp
        refine hK.out _ _ HSX.out (fun hHeld => ?_)
        clear hK K
        refine wpAnyH_ready (rs := [7]) (by kernel_rfl) (by simp) ?_
        refine AllReadyH.cons rfl (fun K hK => ?_) AllReadyH.nil
        go_simp
        refine hK.out _ _ HSX.out (fun hHeld => ?_)
        clear hK K
        refine wpAnyH_done (by kernel_rfl) ?_ _
        go_wp2
        refine bodyPost_ret (v := .tuple #[.agg #[.slice (some ⟨w3.heap.size + 1, 0, none⟩) 1 1, .slice (some ⟨w3.heap.size, 0, none⟩) 1 1, .slice none 0 0, .int .i64 0, .int .i64 0], .bool true]) (by simp [results, Try.results13, go_sem, e0, e1, e2, e3, e4]) rfl ?_
        rw [HF.out]
        refine ⟨_, _, _, _, none, 0, rfl, MZ.start HFL.out C1.out F1.out C2.out G1.out (b := w.heap.size + 1) (fun k hk => ⟨by omega, by omega⟩) (fun k hk => ⟨by omega, by omega⟩) (fun k hk hk2 => by omega) (by omega) (by omega) (by omega) (by omega) (by omega) (by omega) (by omega) HT.out (by omega), hVw.trans (HT.out.below hVw.size (fun k hk => by omega))⟩
    · go_simp
      refine hK.out _ _ (hHeld.on ((Below.refl _ Q0).alloc (Nat.le_refl _) (Obj.cells #[.int .i64 0, .int .i64 0, .int .i64 0, .slice none 0 0, .slice x 8 y] 59))) (fun hHeld => ?_)
      clear hK K
      refine wpAnyH_ready (rs := [1]) (by kernel_rfl) (by simp) ?_
      refine AllReadyH.cons rfl (fun K hK => ?_) AllReadyH.nil
      go_simp
      refine (HCO.out (Q0.alloc (Obj.cells #[.int .i64 0, .int .i64 0, .int .i64 0, .slice none 0 0, .slice x 8 y] 59)) (hwQ.alloc hwQ.size _)).mono ?_
      rintro e w3 ⟨x3, y3, rfl, hv3, hb3⟩
      dsimp only
      refine hK.out _ _ (hHeld.on hb3) (fun hHeld => ?_)
      clear hK K
      refine wpAnyH_ready (rs := [2]) (by kernel_rfl) (by simp) ?_
      refine AllReadyH.cons rfl (fun K hK => ?_) AllReadyH.nil
      go_simp
      refine hK.out _ _ (hHeld.on ((Below.refl _ w3).alloc (Nat.le_refl _) (Obj.cells #[.int .i64 0, .slice x3 fl.length y3] 57))) (fun hHeld => ?_)
      clear hK K
      have hz3 : Q0.heap.size + 1 ≤ w3.heap.size := by have := hb3.size; simpa using this
      have hbV : Below w3.heap.size w3 (w3.alloc (Obj.cells #[.int .i64 0, .slice x3 fl.length y3] 57)) := (Below.refl _ _).alloc (Nat.le_refl _) _
      have hVw : Below w.heap.size w (w3.alloc (Obj.cells #[.int .i64 0, .slice x3 fl.length y3] 57)) := below_over (below_over (hwQ.alloc hwQ.size _) hb3) hbV
      have hVs : (w3.alloc (Obj.cells #[.int .i64 0, .slice x3 fl.length y3] 57)).heap.size = w3.heap.size + 1 := by simp
      have F1 : Hid (VZ (fun k => Q0.heap.size + 1 < k ∧ k < w3.heap.size) (w3.alloc (Obj.cells #[.int .i64 0, .slice x3 fl.length y3] 57)) (.slice x3 fl.length y3) fl) := (hv3.weak (fun k hk => ⟨by have := hk.1; simp at this; omega, hk.2⟩)).on hbV
      have G1 : Hid (VZ (fun k => w1.heap.size < k ∧ k < w2.heap.size) (w3.alloc (Obj.cells #[.int .i64 0, .slice x3 fl.length y3] 57)) (.slice x 8 y) (frmV [(2, 0)])) := ((HVQ.out.on ((Below.refl _ _).alloc (Nat.le_refl _) _)).on hb3).on hbV
      have RV : Hid (Cells (w3.alloc (Obj.cells #[.int .i64 0, .slice x3 fl.length y3] 57)) (w.heap.size + 1) [.slice none 0 0, .slice none 0 0, .slice none 0 0, .int .i64 0, .int .i64 0]) := ((RQ.out.alloc _).on hb3).on hbV
      have C1 : Hid (Cells (w3.alloc (Obj.cells #[.int .i64 0, .slice x3 fl.length y3] 57)) w3.heap.size [.int .i64 0, .slice x3 fl.length y3]) := Cells.new w3 _ rfl _ _
      have C2 : Hid (Cells (w3.alloc (Obj.cells #[.int .i64 0, .slice x3 fl.length y3] 57)) Q0.heap.size [.int .i64 0, .int .i64 0, .int .i64 0, .slice none 0 0, .slice x 8 y]) := ((Cells.new Q0 _ rfl _ _).on hb3).on hbV
      have hzz := HZX.out
      obtain ⟨V, hV⟩ : ∃ V, V = (w3.alloc (Obj.cells #[.int .i64 0, .slice x3 fl.length y3] 57)) := ⟨_, rfl⟩
      rw [← hV] at hHeld C1 C2 F1 G1 RV hVw hVs
      rw [← hV]
      clear hV
      refine wpAnyH_take (i := 5) (v := ?_) rfl (by kernel_rfl) (by kernel_rfl) (by kernel_rfl) (fun _ _ _ h => h) (Or.inl ⟨by rfl, ?_⟩) hHeld ?_
      rotate_left 1
      · intro w' hSw
        go_simp
        try with_reducible rfl
      simp only [Act.put]
      obtain ⟨r0, q0⟩ := RV.out.g0
      obtain ⟨r1, q1⟩ := RV.out.g1
      obtain ⟨r2, q2⟩ := RV.out.g2
      obtain ⟨r3, q3⟩ := RV.out.g3
      obtain ⟨r4, q4⟩ := RV.out.g4
      have R5 := ((((RV.out.s0 (.slice (some ⟨w3.heap.size, 0, none⟩) 1 1)).s1 (.slice (some ⟨Q0.heap.size, 0, none⟩) 1 1)).s2 (.slice none 0 0)).s3 (.int .i64 0)).s4 (.int .i64 0)
      obtain ⟨e0, _⟩ := R5.g0
      obtain ⟨e1, _⟩ := R5.g1
      obtain ⟨e2, _⟩ := R5.g2
      obtain ⟨e3, _⟩ := R5.g3
      obtain ⟨e4, _⟩ := R5.g4
      clear R5
      have HT : Hid (Tch (fun k => k = w.heap.size + 1) V (((((V.setCell ⟨w.heap.size + 1, 0, none⟩ (.slice (some ⟨w3.heap.size, 0, none⟩) 1 1)).setCell ⟨w.heap.size + 1, 1, none⟩ (.slice (some ⟨Q0.heap.size, 0, none⟩) 1 1)).setCell ⟨w.heap.size + 1, 2, none⟩ (.slice none 0 0)).setCell ⟨w.heap.size + 1, 3, none⟩ (.int .i64 0)).setCell ⟨w.heap.size + 1, 4, none⟩ (.int .i64 0))) := (((((Tch.set (S := fun k => k = w.heap.size + 1) V (p := ⟨w.heap.size + 1, 0, none⟩) rfl (.slice (some ⟨w3.heap.size, 0, none⟩) 1 1)).trans (Tch.set (S := fun k => k = w.heap.size + 1) _ (p := ⟨w.heap.size + 1, 1, none⟩) rfl (.slice (some ⟨Q0.heap.size, 0, none⟩) 1 1))).trans (Tch.set (S := fun k => k = w.heap.size + 1) _ (p := ⟨w.heap.size + 1, 2, none⟩) rfl (.slice none 0 0))).trans (Tch.set (S := fun k => k = w.heap.size + 1) _ (p := ⟨w.heap.size + 1, 3, none⟩) rfl (.int .i64 0))).trans (Tch.set (S := fun k => k = w.heap.size + 1) _ (p := ⟨w.heap.size + 1, 4, none⟩) rfl (.int .i64 0)))
      have HSX : Hid (StS w.heap.size w2.heap.size [.slice (some ⟨b, o, none⟩) p.length cap] [.int .i64 0, .int .i64 0, .int .i64 0, .slice none 0 0, .slice x 8 y] (((((V.setCell ⟨w.heap.size + 1, 0, none⟩ (.slice (some ⟨w3.heap.size, 0, none⟩) 1 1)).setCell ⟨w.heap.size + 1, 1, none⟩ (.slice (some ⟨Q0.heap.size, 0, none⟩) 1 1)).setCell ⟨w.heap.size + 1, 2, none⟩ (.slice none 0 0)).setCell ⟨w.heap.size + 1, 3, none⟩ (.int .i64 0)).setCell ⟨w.heap.size + 1, 4, none⟩ (.int .i64 0))) := (((((hHeld.far ⟨w.heap.size + 1, 0, none⟩ (.slice (some ⟨w3.heap.size, 0, none⟩) 1 1) HN1.out HN2.out).far ⟨w.heap.size + 1, 1, none⟩ (.slice (some ⟨Q0.heap.size, 0, none⟩) 1 1) HN1.out HN2.out).far ⟨w.heap.size + 1, 2, none⟩ (.slice none 0 0) HN1.out HN2.out).far ⟨w.heap.size + 1, 3, none⟩ (.int .i64 0) HN1.out HN2.out).far ⟨w.heap.size + 1, 4, none⟩ (.int .i64 0) HN1.out HN2.out)
      refine wpAnyH_ready (rs := [6]) (by kernel_rfl) (by simp) ?_
      refine AllReadyH.cons rfl (fun K hK => ?_) AllReadyH.nil
      go_simp
      refine hK.out _ _ HSX.out (fun hHeld => ?_)
      clear hK K
      refine wpAnyH_ready (rs := [7]) (by kernel_rfl) (by simp) ?_
      refine AllReadyH.cons rfl (fun K hK => ?_) AllReadyH.nil
      go_simp
      refine hK.out _ _ HSX.out (fun hHeld => ?_)
      clear hK K
      refine wpAnyH_done (by kernel_rfl) ?_ _
      go_wp2
      refine bodyPost_ret (v := .tuple #[.agg #[.slice (some ⟨w3.heap.size, 0, none⟩) 1 1, .slice (some ⟨Q0.heap.size, 0, none⟩) 1 1, .slice none 0 0, .int .i64 0, .int .i64 0], .bool true]) (by simp [results, Try.results13, go_sem, e0, e1, e2, e3, e4]) rfl ?_
      rw [HF.out]
      refine ⟨_, _, _, _, none, 0, rfl, MZ.start HFL.out C1.out F1.out C2.out G1.out (b := w.heap.size + 1) (fun k hk => ⟨by omega, by omega⟩) (fun k hk => ⟨by omega, by omega⟩) (fun k hk hk2 => by omega) (by omega) (by omega) (by omega) (by omega) (by omega) (by omega) (by omega) HT.out (by omega), hVw.trans (HT.out.below hVw.size (fun k hk => by omega))⟩
end Pg
end Go.Proofs.Ytobaeenngffndaa
