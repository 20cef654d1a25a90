/- Machines marked. -/
import Derived.Test.YtobaeenngffndaaMz2
namespace Go.Proofs.Ytobaeenngffndaa
namespace Pg
open Go.ChangeShapes Go.WideShapes Go.ChangeAt Go.RowKit St


theorem markNums (S : Nat → Prop) (a : Option Addr) (cap m : Nat) (mi : Int) (hmi : mi = (m : Int)) (l : List Int) (hl : l.length ≤ 1048576) (hn : m + l.length ≤ 4000000) (w : World) (h : NZ S w (.slice a l.length cap) l) :
    Calls Try.prog 48 #[.slice a l.length cap, .int .i64 mi] w fun e w' => e = .returned (.int .i64 ((m + l.length : Nat) : Int)) ∧ NZ S w' (.slice a l.length cap) (imarks m l.length) ∧ Tch S w w' := by
  subst hmi
  rcases h with ⟨g, c, hv, h1, h2, h3, h4⟩ | ⟨hv, rfl⟩
  · rw [hv]
    refine (imark_at g c m l.length (by omega) hl w h4).mono ?_
    rintro e w' ⟨rfl, k1, k2, k3⟩
    exact ⟨by push_cast; rfl, .inl ⟨g, c, by rw [imarks_len], h1, by rw [k3.size]; exact h2, k1, by rw [imarks_len]; exact k2⟩, only_tch k3 h1⟩
  · have h0 : GZ 0 0 w (.slice a ([] : List Int).length cap) [] := .inr ⟨hv, rfl⟩
    refine (markIntsZ w.heap.size w.heap.size m a cap [] (by simp) hn w (Nat.le_refl _) (.inr ⟨hv, rfl⟩)).mono ?_
    rintro e w' ⟨h1, _, h3, _⟩
    exact ⟨h1, .inr ⟨hv, rfl⟩, Tch.of h3⟩
theorem heldNums (S : Nat → Prop) (a : Option Addr) (cap m n : Nat) (mi : Int) (hmi : mi = (m : Int)) (hl : n ≤ 1048576) (hn : m + n ≤ 4000000) (w : World) (h : NZ S w (.slice a n cap) (imarks m n)) :
    Calls Try.prog 51 #[.slice a n cap, .int .i64 mi] w fun e w' => e = .returned (.int .i64 ((m + n : Nat) : Int)) ∧ w = w' := by
  subst hmi
  rcases h with ⟨g, c, hv, h1, h2, h3, h4⟩ | ⟨hv, hl⟩
  · rw [imarks_len] at hv
    rw [hv]
    refine (iheld_at g c m n (by omega) hl w h3).mono ?_
    rintro e w' ⟨rfl, rfl⟩
    exact ⟨by push_cast; rfl, rfl⟩
  · have hn0 : n = 0 := by have := imarks_len m n; rw [hl] at this; simpa using this.symm
    subst hn0
    rw [hv]
    exact heldI_nil m w
def cntK (x : Mc) : Nat := sumN (x.heap.map cntO1) + sumN (x.frames.map cntF1) + x.said.length
def marksK (m : Nat) (x : Mc) : Mc := ⟨marksO m x.heap, marksF (m + sumN (x.heap.map cntO1)) x.frames, imarks (m + sumN (x.heap.map cntO1) + sumN (x.frames.map cntF1)) x.said.length, x.fin, x.code⟩
theorem marksO_len (m : Nat) (l : List Ob) : (marksO m l).length = l.length := midO_len _ _ _
theorem marksF_len (m : Nat) (l : List Fr) : (marksF m l).length = l.length := midF_len _ _ _

set_option maxRecDepth 100000 in
set_option maxHeartbeats 2000000 in
theorem markMachine' (S : Nat → Prop) (x : Mc) (a1 a2 a3 : Option Addr) (c1 c2 c3 m : Nat) (mi : Int) (hmi : mi = (m : Int)) (fin code : Int) (hl1 : x.heap.length ≤ 1048576) (hl2 : x.frames.length ≤ 1048576) (hl3 : x.said.length ≤ 1048576) (hn : m + cntK x ≤ 4000000) (w : World) (hS : ∀ k, S k → k < w.heap.size) (h : MZ S w (.slice a1 x.heap.length c1) (.slice a2 x.frames.length c2) (.slice a3 x.said.length c3) x) :
    Calls Try.prog 16 #[.agg #[.slice a1 x.heap.length c1, .slice a2 x.frames.length c2, .slice a3 x.said.length c3, .int .i64 fin, .int .i64 code], .int .i64 mi] w fun e w' => e = .returned (.int .i64 ((m + cntK x : Nat) : Int)) ∧ MZ S w' (.slice a1 x.heap.length c1) (.slice a2 x.frames.length c2) (.slice a3 x.said.length c3) (marksK m x) ∧ Tch S w w' := by
  subst hmi
  obtain ⟨S1, S2, S3, i1, i2, i3, d1, d2, d3, h1, h2, h3⟩ := h
  have HI : Hid ((∀ k, S1 k → S k) ∧ (∀ k, S2 k → S k) ∧ (∀ k, S3 k → S k) ∧ (∀ k, S1 k → ¬ S2 k) ∧ (∀ k, S1 k → ¬ S3 k) ∧ (∀ k, S2 k → ¬ S3 k)) := ⟨i1, i2, i3, d1, d2, d3⟩
  have HS : Hid (∀ k, S k → k < w.heap.size) := hS
  have H1 : Hid (OZ S1 w (.slice a1 x.heap.length c1) x.heap) := h1
  have H2 : Hid (FZ S2 w (.slice a2 x.frames.length c2) x.frames) := h2
  have H3 : Hid (NZ S3 w (.slice a3 x.said.length c3) x.said) := h3
  have HN : Hid (m + (sumN (x.heap.map cntO1) + sumN (x.frames.map cntF1) + x.said.length) ≤ 4000000) := by
    show _ ≤ _
    unfold cntK at hn
    exact hn
  clear hS i1 i2 i3 d1 d2 d3 h1 h2 h3 hn
  obtain ⟨W, hW⟩ : ∃ W, W = w.alloc (.cells #[.slice a1 x.heap.length c1, .slice a2 x.frames.length c2, .slice a3 x.said.length c3, .int .i64 fin, .int .i64 code] 32) := ⟨_, rfl⟩
  have hwW : Below w.heap.size w W := by rw [hW]; exact (Below.refl _ _).alloc (Nat.le_refl _) _
  have P0 : Hid (Cells W w.heap.size [.slice a1 x.heap.length c1, .slice a2 x.frames.length c2, .slice a3 x.said.length c3, .int .i64 fin, .int .i64 code]) := by rw [hW]; exact Cells.new w _ rfl _ _
  obtain ⟨q1, hq1⟩ : ∃ q, q = m + sumN (x.heap.map cntO1) := ⟨_, rfl⟩
  obtain ⟨q2, hq2⟩ : ∃ q, q = q1 + sumN (x.frames.map cntF1) := ⟨_, rfl⟩
  have HQ1 : Hid (m + sumN (x.heap.map cntO1) = q1) := hq1.symm
  have HQ2 : Hid (q1 + sumN (x.frames.map cntF1) = q2) := hq2.symm
  clear hq1 hq2
  go_enter Try.func16, Try.ntmps16
  go_wp2_with fail
  rw [← hW]
  clear hW
  refine (markObjects S1 a1 c1 m _ rfl x.heap hl1 (by have h0 := HN.out; have h1 := HQ1.out; have h2 := HQ2.out; omega) _ (H1.out.on hwW)).mono ?_
  rw [HQ1.out]
  rintro e w1 ⟨rfl, z1, t1⟩
  have P1 : Hid (Cells w1 w.heap.size [.slice a1 x.heap.length c1, .slice a2 x.frames.length c2, .slice a3 x.said.length c3, .int .i64 fin, .int .i64 code]) := P0.out.tch t1 (fun h => by have := HS.out _ (HI.out.1 _ h); omega)
  obtain ⟨r1, _⟩ := P1.out.g1
  have Z2 : Hid (FZ S2 w1 (.slice a2 x.frames.length c2) x.frames) := (H2.out.on hwW).tch t1 (fun k hk h => HI.out.2.2.2.1 k h hk)
  have Z3 : Hid (NZ S3 w1 (.slice a3 x.said.length c3) x.said) := (H3.out.on hwW).tch t1 (fun k hk h => HI.out.2.2.2.2.1 k h hk)
  have Z1 : Hid (OZ S1 w1 (.slice a1 x.heap.length c1) (marksO m x.heap)) := z1
  have T1 : Hid (Tch S w w1) := (Tch.of hwW).trans (t1.mono HI.out.1)
  clear z1 t1
  go_wp2_with fail
  refine (markFrames S2 a2 c2 q1 _ rfl x.frames hl2 (by have h0 := HN.out; have h1 := HQ1.out; have h2 := HQ2.out; omega) _ Z2.out).mono ?_
  rw [HQ2.out]
  rintro e w2 ⟨rfl, z2, t2⟩
  have P2 : Hid (Cells w2 w.heap.size [.slice a1 x.heap.length c1, .slice a2 x.frames.length c2, .slice a3 x.said.length c3, .int .i64 fin, .int .i64 code]) := P1.out.tch t2 (fun h => by have := HS.out _ (HI.out.2.1 _ h); omega)
  obtain ⟨r2, _⟩ := P2.out.g2
  have Y1 : Hid (OZ S1 w2 (.slice a1 x.heap.length c1) (marksO m x.heap)) := Z1.out.tch t2 HI.out.2.2.2.1
  have Y3 : Hid (NZ S3 w2 (.slice a3 x.said.length c3) x.said) := Z3.out.tch t2 (fun k hk h => HI.out.2.2.2.2.2 k h hk)
  have Y2 : Hid (FZ S2 w2 (.slice a2 x.frames.length c2) (marksF q1 x.frames)) := z2
  have T2 : Hid (Tch S w w2) := T1.out.trans (t2.mono HI.out.2.1)
  clear z2 t2 r1 Z1 Z2 Z3 T1 P1
  go_wp2_with fail
  refine (markNums S3 a3 c3 q2 _ rfl x.said hl3 (by have h0 := HN.out; have h1 := HQ1.out; have h2 := HQ2.out; omega) _ Y3.out).mono ?_
  rintro e w3 ⟨rfl, z3, t3⟩
  have HFIN : Hid (MZ S w3 (.slice a1 x.heap.length c1) (.slice a2 x.frames.length c2) (.slice a3 x.said.length c3) (marksK m x)) := by
    show MZ _ _ _ _ _ (Mc.mk _ _ _ _ _)
    rw [HQ1.out, HQ2.out]
    exact ⟨S1, S2, S3, HI.out.1, HI.out.2.1, HI.out.2.2.1, HI.out.2.2.2.1, HI.out.2.2.2.2.1, HI.out.2.2.2.2.2, Y1.out.tch t3 HI.out.2.2.2.2.1, Y2.out.tch t3 HI.out.2.2.2.2.2, z3⟩
  have T3 : Hid (Tch S w w3) := T2.out.trans (t3.mono HI.out.2.2.1)
  clear z3 t3 r2 Y1 Y2 Y3 T2 P2
  go_wp2
  go_ret
  exact ⟨retN (congrArg (fun t : Nat => (t : Int)) (show q2 + x.said.length = m + cntK x by unfold cntK; have h1 := HQ1.out; have h2 := HQ2.out; omega)), HFIN.out, T3.out⟩
set_option maxRecDepth 100000 in
set_option maxHeartbeats 2000000 in
theorem heldMachine' (S : Nat → Prop) (x : Mc) (a1 a2 a3 : Option Addr) (c1 c2 c3 m : Nat) (mi : Int) (hmi : mi = (m : Int)) (fin code : Int) (hl1 : x.heap.length ≤ 1048576) (hl2 : x.frames.length ≤ 1048576) (hl3 : x.said.length ≤ 1048576) (hn : m + cntK x ≤ 4000000) (w : World) (h : MZ S w (.slice a1 x.heap.length c1) (.slice a2 x.frames.length c2) (.slice a3 x.said.length c3) (marksK m x)) :
    Calls Try.prog 17 #[.agg #[.slice a1 x.heap.length c1, .slice a2 x.frames.length c2, .slice a3 x.said.length c3, .int .i64 fin, .int .i64 code], .int .i64 mi] w fun e w' => e = .returned (.int .i64 ((m + cntK x : Nat) : Int)) ∧ Below w.heap.size w w' := by
  subst hmi
  obtain ⟨S1, S2, S3, i1, i2, i3, d1, d2, d3, h1, h2, h3⟩ := h
  have H1 : Hid (OZ S1 w (.slice a1 x.heap.length c1) (marksO m x.heap)) := h1
  have H2 : Hid (FZ S2 w (.slice a2 x.frames.length c2) (marksF (m + sumN (x.heap.map cntO1)) x.frames)) := h2
  have H3 : Hid (NZ S3 w (.slice a3 x.said.length c3) (imarks (m + sumN (x.heap.map cntO1) + sumN (x.frames.map cntF1)) x.said.length)) := h3
  have HN : Hid (m + (sumN (x.heap.map cntO1) + sumN (x.frames.map cntF1) + x.said.length) ≤ 4000000) := by
    show _ ≤ _
    unfold cntK at hn
    exact hn
  clear i1 i2 i3 d1 d2 d3 h1 h2 h3 hn
  obtain ⟨W, hW⟩ : ∃ W, W = w.alloc (.cells #[.slice a1 x.heap.length c1, .slice a2 x.frames.length c2, .slice a3 x.said.length c3, .int .i64 fin, .int .i64 code] 32) := ⟨_, rfl⟩
  have hwW : Below w.heap.size w W := by rw [hW]; exact (Below.refl _ _).alloc (Nat.le_refl _) _
  have P0 : Hid (Cells W w.heap.size [.slice a1 x.heap.length c1, .slice a2 x.frames.length c2, .slice a3 x.said.length c3, .int .i64 fin, .int .i64 code]) := by rw [hW]; exact Cells.new w _ rfl _ _
  obtain ⟨r1, _⟩ := P0.out.g1
  obtain ⟨r2, _⟩ := P0.out.g2
  obtain ⟨q1, hq1⟩ : ∃ q, q = m + sumN (x.heap.map cntO1) := ⟨_, rfl⟩
  obtain ⟨q2, hq2⟩ : ∃ q, q = q1 + sumN (x.frames.map cntF1) := ⟨_, rfl⟩
  have HQ1 : Hid (m + sumN (x.heap.map cntO1) = q1) := hq1.symm
  have HQ2 : Hid (q1 + sumN (x.frames.map cntF1) = q2) := hq2.symm
  clear hq1 hq2
  go_enter Try.func17, Try.ntmps17
  go_wp2_with fail
  rw [← hW]
  clear hW
  refine (heldObjects S1 a1 c1 m _ rfl x.heap hl1 (by have h0 := HN.out; have h1 := HQ1.out; have h2 := HQ2.out; omega) _ (H1.out.on hwW)).mono ?_
  rw [HQ1.out]
  rintro e w1 ⟨rfl, hz⟩
  subst hz
  have hng1 : ¬ ((q1 : Int) < 0) := by omega
  go_wp2_with fail
  refine (heldFrames S2 a2 c2 q1 _ rfl x.frames hl2 (by have h0 := HN.out; have h1 := HQ1.out; have h2 := HQ2.out; omega) _ (by have h := H2.out.on hwW; rw [HQ1.out] at h; exact h)).mono ?_
  rw [HQ2.out]
  rintro e w2 ⟨rfl, hz⟩
  subst hz
  have hng2 : ¬ ((q2 : Int) < 0) := by omega
  go_wp2_with fail
  refine (heldNums S3 a3 c3 q2 x.said.length _ rfl hl3 (by have h0 := HN.out; have h1 := HQ1.out; have h2 := HQ2.out; omega) _ (by have h := H3.out.on hwW; rw [HQ1.out, HQ2.out] at h; exact h)).mono ?_
  rintro e w3 ⟨rfl, hz⟩
  subst hz
  have HRE : Hid (q2 + x.said.length = m + cntK x) := by show _ = _; unfold cntK; have h1 := HQ1.out; have h2 := HQ2.out; omega
  generalize q2 + x.said.length = rr at *
  have hng3 : ¬ ((rr : Int) < 0) := by omega
  go_wp2
  go_ret
  exact ⟨retN (congrArg (fun t : Nat => (t : Int)) HRE.out), hwW⟩
end Pg
end Go.Proofs.Ytobaeenngffndaa
