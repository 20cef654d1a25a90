/- Contracts of the laws' own comparing and marking of a method that a call has made. -/
import Derived.Test.YtbfiijfaaknhaaaPcm
import Derived.Test.YtbfiijfaaknhaaaPm0
import Derived.Test.YtbfiijfaaknhaaaPz0
namespace Go.Proofs.Ytbfiijfaaknhaaa
namespace Pg
open Go.ChangeShapes Go.WideShapes Go.ChangeAt Go.RowKit St


set_option maxRecDepth 100000 in
set_option maxHeartbeats 1000000 in
theorem markM_at (g cap m n : Nat) (hn : m + 3 * n ≤ 4000000) (w : World) (hr : Room w g (n * 3)) :
    Calls Try.prog 37 #[.slice (some ⟨g, 0, none⟩) n cap, .int .i64 m] w fun e w' => e = .returned (.int .i64 ((m + 3 * n : Nat) : Int)) ∧ Row w' g 0 (marksM m n) ∧ Room w' g (n * 3) ∧ Only g w w' := by
  have HR : Hid (Room w g (n * 3)) := hr
  clear hr
  go_enter Try.func37, Try.ntmps37
  go_wp2
  go_loopw [1, 5] (fun q i wr => ∃ k : Nat, k ≤ n ∧ i = .int .i64 k ∧ q = .int .i64 ((m : Int) + 3 * (k : Int)) ∧ Hid (Room wr g (n * 3)) ∧ Hid (Row wr g 0 ((marksM m n).take k)) ∧ Hid (Only g w wr)) (fun _ i _ => n - (intOf i).toNat)
  case atStart => exact ⟨0, Nat.zero_le _, rfl, by simp, HR.out, fun j x h => by simp at h, Only.refl _ _⟩
  case round =>
    obtain ⟨k, hk, rfl, rfl, hrm, hrw, hon⟩ := hrel
    by_cases hlt : k < n
    · have hki : (k : Int) < (n : Int) := by omega
      obtain ⟨⟨x0, d0⟩, f0⟩ := hrm.out (k * 3) (by omega)
      obtain ⟨⟨x1, d1⟩, f1⟩ := hrm.out (k * 3 + 1) (by omega)
      obtain ⟨⟨x2, d2⟩, f2⟩ := hrm.out (k * 3 + 2) (by omega)
      have hml : k < (marksM m n).length := by rw [marksM_len]; exact hlt
      have HN := row_next hml (by rw [marksM_len]; exact hrm.out) hrw.out
      have hmk : (marksM m n)[k] = ((m : Int) + 3 * (k : Int), (m : Int) + 3 * (k : Int) + 1, (m : Int) + 3 * (k : Int) + 1 + 1) := by
        have := marksM_at (m := m) hlt
        rw [List.getElem?_eq_getElem hml] at this
        simpa using this
      rw [hmk] at HN
      have HNX : Hid (Row (((wr.setCell ⟨g, k * 3, none⟩ (.int .i64 ((m : Int) + 3 * (k : Int)))).setCell ⟨g, k * 3 + 1, none⟩ (.int .i64 ((m : Int) + 3 * (k : Int) + 1))).setCell ⟨g, k * 3 + 2, none⟩ (.int .i64 ((m : Int) + 3 * (k : Int) + 1 + 1))) g 0 ((marksM m n).take (k + 1))) := HN
      clear HN hmk hml
      go_wp2
      go_roundw
      case rel => exact ⟨k + 1, by omega, by go_num, by go_num, ((hrm.out.set _ _).set _ _).set _ _, HNX.out, ((hon.out.set _ _).set _ _).set _ _⟩
      case measure => simp [intOf]; omega
    · have e : (marksM m n).take k = marksM m n := List.take_of_length_le (by rw [marksM_len]; omega)
      have hkn : k = n := by omega
      have HE := hrw.out
      rw [e] at HE
      have HEE : Hid (Row wr g 0 (marksM m n)) := HE
      have HKN : Hid (k = n) := hkn
      clear HE e hkn
      go_wp2
      go_ret
      exact ⟨by rw [← HKN.out]; push_cast; rfl, HEE.out, hrm.out, hon.out⟩

set_option maxRecDepth 100000 in
set_option maxHeartbeats 1000000 in
theorem heldM_at (g cap m n : Nat) (hn : m + 3 * n ≤ 4000000) (w : World) (hr : Row w g 0 (marksM m n)) :
    Calls Try.prog 38 #[.slice (some ⟨g, 0, none⟩) n cap, .int .i64 m] w fun e w' => e = .returned (.int .i64 ((m + 3 * n : Nat) : Int)) ∧ w = w' := by
  have HR : Hid (Row w g 0 (marksM m n)) := hr
  clear hr
  go_enter Try.func38, Try.ntmps38
  go_wp2
  go_loop [1, 5] (fun q i => ∃ k : Nat, k ≤ n ∧ i = .int .i64 k ∧ q = .int .i64 ((m : Int) + 3 * (k : Int))) (fun _ i => n - (intOf i).toNat)
  case atStart => exact ⟨0, Nat.zero_le _, rfl, by simp⟩
  case round =>
    obtain ⟨k, hk, rfl, rfl⟩ := hrel
    by_cases hlt : k < n
    · have hki : (k : Int) < (n : Int) := by omega
      obtain ⟨h0, h1, h2⟩ := HR.out k _ (marksM_at hlt)
      simp only [Nat.zero_add] at h0 h1 h2
      go_wp2
      go_round
      case rel => exact ⟨k + 1, by omega, by go_num, by go_num⟩
      case measure => simp [intOf]; omega
    · have HKN : Hid (k = n) := by show k = n; omega
      go_wp2
      go_ret
      exact ⟨by rw [← HKN.out]; push_cast; rfl, rfl⟩

set_option maxHeartbeats 400000 in
theorem heldM_nil (m : Nat) (w : World) : Calls Try.prog 38 #[.slice none 0 0, .int .i64 m] w fun e w' => e = .returned (.int .i64 (m : Int)) ∧ w = w' := by
  go_enter Try.func38, Try.ntmps38
  go_wp2
  go_loop [1, 5] (fun q i => i = .int .i64 0 ∧ q = .int .i64 (m : Int)) (fun _ _ => 0)
  case atStart => exact ⟨rfl, rfl⟩
  case round =>
    obtain ⟨rfl, rfl⟩ := hrel
    go_wp2
    go_ret
    exact ⟨rfl, rfl⟩
set_option maxHeartbeats 400000 in
theorem eqRow_nil (a a' : Option Addr) (c c' : Nat) (w : World) : Calls Try.prog 34 #[.slice a 0 c, .slice a' 0 c'] w fun e w' => e = .returned (.bool true) ∧ Below w.heap.size w w' := by
  go_enter Try.func34, Try.ntmps34
  go_wp2
  go_loopw [5] (fun i wr => i = .int .i64 0 ∧ Below w.heap.size w wr) (fun _ _ => 0)
  case atStart => exact ⟨rfl, Below.refl _ _⟩
  case round =>
    obtain ⟨rfl, hb⟩ := hrel
    go_wp2
    go_ret
    exact ⟨rfl, hb⟩
theorem eqRowZ (B C B' C' : Nat) (a a' : Option Addr) (c c' : Nat) (l : List Tx.Ins) (hl : l.length ≤ 1048576) (w : World) (h1 : CZ B C w (.slice a l.length c) l) (h2 : CZ B' C' w (.slice a' l.length c') l) :
    Calls Try.prog 34 #[.slice a l.length c, .slice a' l.length c'] w fun e w' => e = .returned (.bool true) ∧ Below w.heap.size w w' := by
  by_cases h0 : l = []
  · subst h0
    exact eqRow_nil a a' c c' w
  · rcases h1 with ⟨g, d, hv, _, _, _, r1, _⟩ | ⟨_, h⟩
    · rcases h2 with ⟨g', d', hv', _, _, _, r2, _⟩ | ⟨_, h⟩
      · rw [hv, hv']
        exact eqRows g g' d d' l hl w r1 r2
      · exact absurd h h0
    · exact absurd h h0

set_option maxHeartbeats 800000 in
theorem eqMethodZ (B C D B' C' D' : Nat) (m : Meth) (aa aa' ac ac' : Option Addr) (ca ca' cc cc' : Nat) (hs : SmallM m) (w : World) (h1 : GZ B C w (.slice aa m.args.length ca) m.args) (k1 : CZ C D w (.slice ac m.code.length cc) m.code) (h2 : GZ B' C' w (.slice aa' m.args.length ca') m.args) (k2 : CZ C' D' w (.slice ac' m.code.length cc') m.code) :
    Calls Try.prog 11 #[.agg #[.int .i64 m.name, .slice aa m.args.length ca, .int .i64 m.gives, .slice ac m.code.length cc], .agg #[.int .i64 m.name, .slice aa' m.args.length ca', .int .i64 m.gives, .slice ac' m.code.length cc']] w fun e w' => e = .returned (.bool true) ∧ Below w.heap.size w w' := by
  have H1 : Hid (GZ B C w (.slice aa m.args.length ca) m.args) := h1
  have H2 : Hid (GZ B' C' w (.slice aa' m.args.length ca') m.args) := h2
  have K1 : Hid (CZ C D w (.slice ac m.code.length cc) m.code) := k1
  have K2 : Hid (CZ C' D' w (.slice ac' m.code.length cc') m.code) := k2
  have hs1 := hs.1
  have hs2 := hs.2
  clear h1 h2 k1 k2 hs
  go_enter Try.func11, Try.ntmps11
  go_wp2_with fail
  refine (eqInts' (f := true) (f' := true) B B' aa aa' ca ca' m.args hs1 _ ?_ ?_).mono ?_
  · exact SI.on H1.out.si (Keep.of (by go_grown))
  · exact SI.on H2.out.si (Keep.of (by go_grown))
  rintro e w1 ⟨rfl, hb1⟩
  have hw1 : Below w.heap.size w w1 := below_over (by go_grown) hb1
  have A1 : Cells w1 w.heap.size [.int .i64 m.name, .slice aa m.args.length ca, .int .i64 m.gives, .slice ac m.code.length cc] := by
    refine Cells.on ?_ hb1
    exact (Cells.new w _ rfl _ _).alloc _
  have B1 : Cells w1 (w.heap.size + 1) [.int .i64 m.name, .slice aa' m.args.length ca', .int .i64 m.gives, .slice ac' m.code.length cc'] := by
    refine Cells.on ?_ hb1
    exact Cells.new (w.alloc _) _ (by simp) _ _
  have a2 := A1.g2.1
  have a3 := A1.g3.1
  have b2 := B1.g2.1
  have b3 := B1.g3.1
  clear A1 B1 hb1
  go_wp2_with fail
  refine (eqRowZ C D C' D' ac ac' cc cc' m.code hs2 _ (K1.out.on hw1) (K2.out.on hw1)).mono ?_
  rintro e w2 ⟨rfl, hb2⟩
  have hw2 : Below w.heap.size w w2 := below_over hw1 hb2
  clear hb2 hw1 a2 a3 b2 b3
  go_wp2
  go_ret
  exact ⟨rfl, hw2⟩

theorem markInsnsZ (B M m : Nat) (a : Option Addr) (c : Nat) (l : List Tx.Ins) (hm : m + 3 * l.length ≤ 4000000) (w : World) (hB : B ≤ w.heap.size) (h : CZ B M w (.slice a l.length c) l) :
    Calls Try.prog 37 #[.slice a l.length c, .int .i64 m] w fun e w' => e = .returned (.int .i64 ((m + 3 * l.length : Nat) : Int)) ∧ CZ B M w' (.slice a l.length c) (marksM m l.length) ∧ Below B w w' ∧ Keep M w w' := by
  rcases h with ⟨g, d, hv, h1, h2, h3, h4, h5⟩ | ⟨hv, rfl⟩
  · rw [hv]
    refine (markM_at g d m l.length hm w h5).mono ?_
    rintro e w' ⟨rfl, k1, k2, k3⟩
    refine ⟨rfl, .inl ⟨g, d, by rw [marksM_len], h1, h2, by rw [k3.size]; exact h3, k1, by rw [marksM_len]; exact k2⟩, k3.below h1, ⟨by rw [k3.size]; exact Nat.le_refl _, fun k hk _ => k3.block k (by omega)⟩⟩
  · rw [hv]
    have hs : ShN 3 w.heap.size w.heap.size w (.slice none 0 0) 0 := ⟨_, _, rfl, fun h => absurd h (by omega)⟩
    refine (markInsns' w.heap.size w.heap.size none 0 m 0 (by omega) w hs).mono ?_
    rintro e w' ⟨rfl, hk⟩
    have hb : Below w.heap.size w w' := hk.below (Nat.le_refl _) (Nat.le_refl _)
    exact ⟨rfl, .inr ⟨rfl, rfl⟩, ⟨hb.os, hb.tape, hb.output, hb.size, fun k hk' => hb.block k (by omega)⟩, Keep.of hb⟩
theorem heldInsnsZ (B M m n : Nat) (a : Option Addr) (c : Nat) (hm : m + 3 * n ≤ 4000000) (w : World) (h : CZ B M w (.slice a n c) (marksM m n)) :
    Calls Try.prog 38 #[.slice a n c, .int .i64 m] w fun e w' => e = .returned (.int .i64 ((m + 3 * n : Nat) : Int)) ∧ w = w' := by
  rcases h with ⟨g, d, hv, h1, h2, h3, h4, h5⟩ | ⟨hv, hl⟩
  · rw [marksM_len] at hv
    rw [hv]
    exact heldM_at g d m n hm w h4
  · have hn0 : n = 0 := by have := marksM_len m n; rw [hl] at this; simpa using this.symm
    subst hn0
    rw [hv]
    exact heldM_nil m w

set_option maxHeartbeats 1000000 in
theorem markMethodZ (B M D : Nat) (m : Meth) (aa ac : Option Addr) (ca cc : Nat) (hsz : m.args.length + m.code.length ≤ 1048576) (w : World) (hB : B ≤ M) (hM : M ≤ D) (hD : D ≤ w.heap.size) (h1 : GZ B M w (.slice aa m.args.length ca) m.args) (k1 : CZ M D w (.slice ac m.code.length cc) m.code) :
    Calls Try.prog 14 #[.agg #[.int .i64 m.name, .slice aa m.args.length ca, .int .i64 m.gives, .slice ac m.code.length cc], .int .i64 1] w fun e w' => e = .returned (.int .i64 ((1 + m.args.length + 3 * m.code.length : Nat) : Int)) ∧ GZ B M w' (.slice aa m.args.length ca) (imarks 1 m.args.length) ∧ CZ M D w' (.slice ac m.code.length cc) (marksM (1 + m.args.length) m.code.length) ∧ Below B w w' ∧ Keep D w w' := by
  have H1 : Hid (GZ B M w (.slice aa m.args.length ca) m.args) := h1
  have K1 : Hid (CZ M D w (.slice ac m.code.length cc) m.code) := k1
  clear h1 k1
  obtain ⟨W, hW⟩ : ∃ W, W = w.alloc (.cells #[.int .i64 m.name, .slice aa m.args.length ca, .int .i64 m.gives, .slice ac m.code.length cc] 29) := ⟨_, rfl⟩
  have hwW : Below w.heap.size w W := by rw [hW]; exact (Below.refl _ _).alloc (Nat.le_refl _) _
  have A0 : Cells W w.heap.size [.int .i64 m.name, .slice aa m.args.length ca, .int .i64 m.gives, .slice ac m.code.length cc] := by rw [hW]; exact Cells.new w _ rfl _ _
  have hzW := hwW.size
  have hBW : B ≤ W.heap.size := by omega
  have hBe : Below B w W := ⟨hwW.os, hwW.tape, hwW.output, hwW.size, fun k hk => hwW.block k (by omega)⟩
  have N3 := A0.g3.1
  have lW : w.heap.size < W.heap.size := cell_lt N3
  go_enter Try.func14, Try.ntmps14
  go_wp2_with fail
  rw [← hW]
  clear hW
  refine (markIntsZ B M 1 aa ca m.args (by omega) (by omega) _ hBW (H1.out.on hwW)).mono ?_
  rintro e w1 ⟨rfl, g1, b1, c1⟩
  have HG1 : Hid (GZ B M w1 (.slice aa m.args.length ca) (imarks 1 m.args.length)) := g1
  have HK1 : Hid (CZ M D w1 (.slice ac m.code.length cc) m.code) := (K1.out.on hwW).keep c1 (Nat.le_refl _)
  have hB1 : Hid (Below B w w1) := hBe.trans b1
  have hD1 : Hid (Keep D w w1) := (Keep.of hwW).trans ⟨c1.size, fun k hk hl => c1.block k (by omega) hl⟩
  have n3 := (c1.cell (p := ⟨w.heap.size, 3, none⟩) (by show M ≤ w.heap.size; omega) lW).trans N3
  have hz1 : M ≤ w1.heap.size := by have := c1.size; omega
  have hs3 : 1 + m.args.length + 3 * m.code.length ≤ 4000000 := by omega
  clear g1 b1 c1 N3 A0 hBe
  generalize hcc : 1 + m.args.length = q at *
  have HCC : Hid (1 + m.args.length = q) := hcc
  clear hcc
  go_wp2_with fail
  refine (markInsnsZ M D q ac cc m.code hs3 _ hz1 HK1.out).mono ?_
  rintro e w2 ⟨rfl, k2, b2, kd2⟩
  have HG2 : Hid (GZ B M w2 (.slice aa m.args.length ca) (imarks 1 m.args.length)) := HG1.out.low b2 (Nat.le_refl _)
  have HK2 : Hid (CZ M D w2 (.slice ac m.code.length cc) (marksM q m.code.length)) := k2
  have hB2 : Hid (Below B w w2) := hB1.out.trans ⟨b2.os, b2.tape, b2.output, b2.size, fun k hk => b2.block k (by omega)⟩
  have hD2 : Hid (Keep D w w2) := hD1.out.trans kd2
  clear k2 b2 n3 HG1 HK1 hB1 hD1 kd2
  generalize hc5 : q + 3 * m.code.length = c5 at *
  have HC5 : Hid (q + 3 * m.code.length = c5) := hc5
  clear hc5
  go_wp2
  go_ret
  exact ⟨retI (by rw [HCC.out, HC5.out]), HG2.out, by rw [HCC.out]; exact HK2.out, hB2.out, hD2.out⟩

set_option maxHeartbeats 1000000 in
theorem heldMethodZ (B M D : Nat) (m : Meth) (aa ac : Option Addr) (ca cc : Nat) (hsz : m.args.length + m.code.length ≤ 1048576) (w : World) (h1 : GZ B M w (.slice aa m.args.length ca) (imarks 1 m.args.length)) (k1 : CZ M D w (.slice ac m.code.length cc) (marksM (1 + m.args.length) m.code.length)) :
    Calls Try.prog 15 #[.agg #[.int .i64 m.name, .slice aa m.args.length ca, .int .i64 m.gives, .slice ac m.code.length cc], .int .i64 1] w fun e w' => e = .returned (.int .i64 ((1 + m.args.length + 3 * m.code.length : Nat) : Int)) ∧ Below w.heap.size w w' := by
  have H1 : Hid (GZ B M w (.slice aa m.args.length ca) (imarks 1 m.args.length)) := h1
  have K1 : Hid (CZ M D w (.slice ac m.code.length cc) (marksM (1 + m.args.length) m.code.length)) := k1
  clear h1 k1
  obtain ⟨W, hW⟩ : ∃ W, W = w.alloc (.cells #[.int .i64 m.name, .slice aa m.args.length ca, .int .i64 m.gives, .slice ac m.code.length cc] 29) := ⟨_, rfl⟩
  have hwW : Below w.heap.size w W := by rw [hW]; exact (Below.refl _ _).alloc (Nat.le_refl _) _
  have A0 : Cells W w.heap.size [.int .i64 m.name, .slice aa m.args.length ca, .int .i64 m.gives, .slice ac m.code.length cc] := by rw [hW]; exact Cells.new w _ rfl _ _
  have N3 := A0.g3.1
  go_enter Try.func15, Try.ntmps15
  go_wp2_with fail
  rw [← hW]
  clear hW A0
  refine (heldIntsZ B M 1 m.args.length aa ca (by omega) (by omega) _ (H1.out.on hwW)).mono ?_
  rintro e w1 ⟨rfl, rfl⟩
  have hs3 : 1 + m.args.length + 3 * m.code.length ≤ 4000000 := by omega
  generalize hcc : 1 + m.args.length = q at *
  have hq0 : ¬ ((q : Int) < 0) := by omega
  have HCC : Hid (1 + m.args.length = q) := hcc
  clear hcc
  go_wp2_with fail
  refine (heldInsnsZ M D q m.code.length ac cc hs3 _ (K1.out.on hwW)).mono ?_
  rintro e w2 ⟨rfl, rfl⟩
  generalize hc5 : q + 3 * m.code.length = c5 at *
  have hc0 : ¬ ((c5 : Int) < 0) := by omega
  have HC5 : Hid (q + 3 * m.code.length = c5) := hc5
  clear hc5 N3
  go_wp2
  go_ret
  exact ⟨retI (by rw [HCC.out, HC5.out]), hwW⟩
end Pg
end Go.Proofs.Ytbfiijfaaknhaaa
