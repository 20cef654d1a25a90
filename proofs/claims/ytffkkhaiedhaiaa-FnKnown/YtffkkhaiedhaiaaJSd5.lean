/- One step of a machine that is handed in: the specification's Stepped. -/
import Derived.Test.YtffkkhaiedhaiaaJSd4
import Derived.Test.YtffkkhaiedhaiaaJMc4
import Derived.Test.YtffkkhaiedhaiaaJMt1
import Derived.Test.YtffkkhaiedhaiaaJMk2
import Derived.Test.YtffkkhaiedhaiaaJPs1
namespace Go.Proofs.Ytffkkhaiedhaiaa
namespace Pg
open Go.ChangeShapes Go.WideShapes Go.ChangeAt Go.RowKit St Wd

theorem smallK_of {m : Mc} (h : Core m) : SmallK m := by
  refine ⟨⟨by have := h.h50; omega, fun o ho => by have := (h.ob o ho).1; show _ ≤ _; omega⟩, ⟨by have := h.f30; omega, fun f hf => ?_⟩, by have := h.s20; omega⟩
  have h1 := (h.fr f hf).s8
  have h2 := (h.fr f hf).l8
  exact ⟨by omega, by omega⟩
theorem MX.setFin {B M : Nat} {w : World} {m : Mc} {vh vf vs : Value} {ch cf : List (List Value)} {Th Tf : Nat → Nat → Nat → Prop} (h : MX B M w m vh vf vs ch cf Th Tf) (x : Int) : MX B M (w.setCell ⟨M, 3, none⟩ (.int .i64 x)) { m with fin := x } vh vf vs ch cf Th Tf := by
  refine ⟨h.cells.set 3 _, h.low, ?_, h.ne⟩
  have hm := h.own.moved (w := w.setCell ⟨M, 3, none⟩ (.int .i64 x)) (by simp) fun k hk => set_blocks w _ _ k (h.ne k hk).symm
  exact ⟨hm.h, hm.f, hm.s, hm.hf, hm.hs, hm.fs, hm.low⟩
set_option maxRecDepth 100000 in
set_option maxHeartbeats 4000000 in
theorem specStepped_at (Bp : Nat) (p : Prg) (bp po cap : Nat) (hok : okP p = true) (hsp : SmallP p) (B0 : Nat) (m : Mc) (hmb : machB m = true) (hps : ∀ f ∈ m.frames, 0 ≤ f.pos ∧ f.pos ≤ 1000) (ah afr va : Option Addr) (chh cfr cva : Nat) (w : World)
    (hp : SK front Bp w (.slice (some ⟨bp, po, none⟩) p.length cap) p) (hk : KV true B0 w (.slice ah m.heap.length chh) (.slice afr m.frames.length cfr) (.slice va m.said.length cva) m) :
    Calls Try.prog 23 #[.agg #[.slice (some ⟨bp, po, none⟩) p.length cap], .agg #[.slice ah m.heap.length chh, .slice afr m.frames.length cfr, .slice va m.said.length cva, .int .i64 m.fin, .int .i64 m.code]] w fun e w' => ∃ vh vf vs ch cf Th Tf, e = .returned (.agg #[vh, vf, vs, .int .i64 (steppedS p m).fin, .int .i64 (steppedS p m).code]) ∧ MOwn w.heap.size w' vh vf vs (steppedS p m) ch cf Th Tf ∧ Below w.heap.size w w' := by
  have hcore := (mach_core m).1 hmb
  obtain ⟨W, hW⟩ : ∃ W, W = ((w.alloc (.cells #[.slice (some ⟨bp, po, none⟩) p.length cap] 39)).alloc (.cells #[.slice ah m.heap.length chh, .slice afr m.frames.length cfr, .slice va m.said.length cva, .int .i64 m.fin, .int .i64 m.code] 44)).alloc (.cells #[.slice none 0 0, .slice none 0 0, .slice none 0 0, .int .i64 0, .int .i64 0] 44) := ⟨_, rfl⟩
  have hwW : Below w.heap.size w W := by rw [hW]; exact (((Below.refl _ _).alloc (Nat.le_refl _) _).alloc (by simp) _).alloc (by simp; omega) _
  have P0 : Hid (Cells W w.heap.size [.slice (some ⟨bp, po, none⟩) p.length cap]) := by rw [hW]; exact ((Cells.new w _ rfl _ _).alloc _).alloc _
  have I0 : Hid (Cells W (w.heap.size + 1) [.slice ah m.heap.length chh, .slice afr m.frames.length cfr, .slice va m.said.length cva, .int .i64 m.fin, .int .i64 m.code]) := by rw [hW]; exact (Cells.new (w.alloc _) _ (by simp) _ _).alloc _
  have R0 : Hid (Cells W (w.heap.size + 1 + 1) [.slice none 0 0, .slice none 0 0, .slice none 0 0, .int .i64 0, .int .i64 0]) := by rw [hW]; exact Cells.new ((w.alloc _).alloc _) _ (by simp) _ _
  have HZ : Hid (W.heap.size = w.heap.size + 1 + 1 + 1) := by show _ = _; rw [hW]; simp
  have HP : Hid (SK front Bp w (.slice (some ⟨bp, po, none⟩) p.length cap) p) := hp
  have HK : Hid (KV true B0 w (.slice ah m.heap.length chh) (.slice afr m.frames.length cfr) (.slice va m.said.length cva) m) := hk
  have HMB : Hid (machB m = true) := hmb
  have HOK : Hid (okP p = true) := hok
  have HPS : Hid (∀ f ∈ m.frames, 0 ≤ f.pos ∧ f.pos ≤ 1000) := hps
  have HCO : Hid (Core m) := hcore.1
  have HFN : Hid (m.fin = 0 → m.frames ≠ []) := hcore.2.2.2
  have HSS : Hid (steppedS p m = if m.fin = 0 then { (stepS p m).1 with fin := (stepS p m).2 } else m) := by show _ = _; unfold steppedS; rw [hok, hmb]; rfl
  have h6 := hcore.2.2.1
  have h0 := hcore.2.1
  have i1 := I0.out.g0.1
  have i2 := I0.out.g1.1
  have i3 := I0.out.g2.1
  have i4 := I0.out.g3.1
  have i5 := I0.out.g4.1
  have p0 := P0.out.g0.1
  clear hcore hp hk hmb hok hps
  go_enter Try.func23, Try.ntmps23
  go_upto_region 1 with fail
  rw [← hW]
  clear hW
  go_wp2_with fail
  refine (specProgramOk Bp p _ cap hsp W (SK.on HP.out (Keep.of hwW))).mono ?_
  rw [HOK.out]
  rintro e w1 ⟨rfl, hb1⟩
  have hw1 : Below w.heap.size w w1 := below_over hwW hb1
  have hW1 : Below W.heap.size W w1 := hb1
  clear i1 i2 i3 i4 i5 p0 hb1
  have i1 := (I0.out.on hW1).g0.1
  have i2 := (I0.out.on hW1).g1.1
  have i3 := (I0.out.on hW1).g2.1
  have i4 := (I0.out.on hW1).g3.1
  have i5 := (I0.out.on hW1).g4.1
  go_wp2_with fail
  refine (specMachineOk B0 m ah afr va chh cfr cva (smallK_of HCO.out) w1 (HK.out.on (Keep.of hw1))).mono ?_
  rw [HMB.out]
  rintro e w2 ⟨rfl, hb2⟩
  have hw2 : Below w.heap.size w w2 := below_over hw1 hb2
  have hW2 : Below W.heap.size W w2 := below_over hW1 hb2
  clear i1 i2 i3 i4 i5 hb2 hW1 hw1
  have i1 := (I0.out.on hW2).g0.1
  have i2 := (I0.out.on hW2).g1.1
  have i3 := (I0.out.on hW2).g2.1
  have i4 := (I0.out.on hW2).g3.1
  have i5 := (I0.out.on hW2).g4.1
  go_wp2_with fail
  refine (l8Copy_at B0 m HCO.out ah afr va chh cfr cva w2 (HK.out.on (Keep.of hw2))).mono ?_
  rintro e w3 ⟨vh, vf, vs, ch, cf, Th, Tf, rfl, hown, hb3⟩
  obtain ⟨xh, yh, rfl⟩ := own_any hown.h.own
  obtain ⟨xf, yf, rfl⟩ := own_any hown.f.own
  obtain ⟨xs, ys, rfl⟩ := own_any hown.s
  have hw3 : Below w.heap.size w w3 := below_over hw2 hb3
  have hW3 : Below W.heap.size W w3 := below_over hW2 hb3
  obtain ⟨X, hX⟩ : ∃ X, X = w3.alloc (.cells #[.slice xh m.heap.length yh, .slice xf m.frames.length yf, .slice xs m.said.length ys, .int .i64 m.fin, .int .i64 m.code] 44) := ⟨_, rfl⟩
  have h3X : Below w3.heap.size w3 X := by rw [hX]; exact (Below.refl _ _).alloc (Nat.le_refl _) _
  have hwX : Below w.heap.size w X := below_over hw3 h3X
  have hWX : Below W.heap.size W X := below_over hW3 h3X
  have HMX : Hid (MX W.heap.size w3.heap.size X m (.slice xh m.heap.length yh) (.slice xf m.frames.length yf) (.slice xs m.said.length ys) ch cf Th Tf) :=
    ⟨by rw [hX]; exact Cells.new w3 _ rfl _ _, hW3.size, (hown.on h3X).base hW2.size, fun k hk => by have := hown.lt k hk; omega⟩
  have i4X := (I0.out.on hWX).g3.1
  have p0X := (P0.out.on hWX).g0.1
  clear hown hb3 i1 i2 i3 i4 i5 hW2 hw2
  go_upto_region 4 with fail
  rw [← hX]
  clear hX h3X
  by_cases hf0 : m.fin = 0
  · have HSE : Hid (steppedS p m = { (stepS p m).1 with fin := (stepS p m).2 }) := by show _ = _; rw [HSS.out, if_pos hf0]
    rw [hf0] at i4X
    have HCALL : Hid (Calls Try.prog 56 #[.agg #[.slice (some ⟨bp, po, none⟩) p.length cap], .pointer (some ⟨w3.heap.size, 0, none⟩)] X fun e w' => e = .returned (.int .i64 (stepS p m).2) ∧ MSt W.heap.size w3.heap.size w' (stepS p m).1 ∧ Below W.heap.size X w') :=
      l8Step_at Bp p bp po cap HOK.out W.heap.size w3.heap.size m HCO.out (HFN.out hf0) HPS.out X hWX.size HMX.out.st (SK.on HP.out (Keep.of hwX)) fun f hl => l8Call_at Bp p bp po cap HOK.out hsp W.heap.size w3.heap.size m HCO.out f hl
    clear HMX hf0 HSS
    go_wp2_with fail
    refine HCALL.out.mono ?_
    rintro e Y ⟨rfl, hM, hXY⟩
    obtain ⟨vh, vf, vs, ch, cf, Th, Tf, h1, h2, h3, h4⟩ := hM
    obtain ⟨xh, yh, rfl⟩ := own_any h3.h.own
    obtain ⟨xf, yf, rfl⟩ := own_any h3.f.own
    obtain ⟨xs, ys, rfl⟩ := own_any h3.s
    have hWY : Below W.heap.size W Y := hWX.trans hXY
    have hwY : Below w.heap.size w Y := below_over hwW hWY
    generalize hm1 : (stepS p m).1 = m1 at *
    generalize hx1 : (stepS p m).2 = x1 at *
    have HSE2 : Hid (steppedS p m = { m1 with fin := x1 }) := HSE.out
    clear HSE hm1 hx1 HCALL i4X p0X
    have hMX : MX W.heap.size w3.heap.size Y m1 (.slice xh m1.heap.length yh) (.slice xf m1.frames.length yf) (.slice xs m1.said.length ys) ch cf Th Tf := ⟨h1, h2, h3, h4⟩
    obtain ⟨c3, f3⟩ := h1.g3
    have HMZ : Hid (MX W.heap.size w3.heap.size (Y.setCell ⟨w3.heap.size, 3, none⟩ (.int .i64 x1)) { m1 with fin := x1 } (.slice xh m1.heap.length yh) (.slice xf m1.frames.length yf) (.slice xs m1.said.length ys) ch cf Th Tf) := hMX.setFin x1
    have hWZ : Below W.heap.size W (Y.setCell ⟨w3.heap.size, 3, none⟩ (.int .i64 x1)) := hWY.setCell hW3.size _
    clear h1 h2 h3 h4 hMX
    go_upto_region 6 with fail
    generalize Y.setCell ⟨w3.heap.size, 3, none⟩ (.int .i64 x1) = Z at *
    have hwZ : Below w.heap.size w Z := below_over hwW hWZ
    clear c3 f3
    have RX := R0.out.on hWZ
    obtain ⟨r0, q0⟩ := RX.g0
    obtain ⟨r1, q1⟩ := RX.g1
    obtain ⟨r2, q2⟩ := RX.g2
    obtain ⟨r3, q3⟩ := RX.g3
    obtain ⟨r4, q4⟩ := RX.g4
    obtain ⟨a0, _⟩ := HMZ.out.cells.g0
    obtain ⟨a1, _⟩ := HMZ.out.cells.g1
    obtain ⟨a2, _⟩ := HMZ.out.cells.g2
    obtain ⟨a3, _⟩ := HMZ.out.cells.g3
    obtain ⟨a4, _⟩ := HMZ.out.cells.g4
    dsimp only at a3 a4
    have R5 := five_cells RX (.slice xh m1.heap.length yh) (.slice xf m1.frames.length yf) (.slice xs m1.said.length ys) (.int .i64 x1) (.int .i64 m1.code)
    have HBF := five_below hwZ (show w.heap.size ≤ w.heap.size + 1 + 1 by omega) (.slice xh m1.heap.length yh) (.slice xf m1.frames.length yf) (.slice xs m1.said.length ys) (.int .i64 x1) (.int .i64 m1.code)
    have HOF : Hid (MOwn w.heap.size (((((Z.setCell ⟨w.heap.size + 1 + 1, 0, none⟩ (.slice xh m1.heap.length yh)).setCell ⟨w.heap.size + 1 + 1, 1, none⟩ (.slice xf m1.frames.length yf)).setCell ⟨w.heap.size + 1 + 1, 2, none⟩ (.slice xs m1.said.length ys)).setCell ⟨w.heap.size + 1 + 1, 3, none⟩ (.int .i64 x1)).setCell ⟨w.heap.size + 1 + 1, 4, none⟩ (.int .i64 m1.code)) (.slice xh m1.heap.length yh) (.slice xf m1.frames.length yf) (.slice xs m1.said.length ys) (steppedS p m) ch cf Th Tf) := by
      show MOwn _ _ _ _ _ _ _ _ _ _
      rw [HSE2.out]
      refine (HMZ.out.own.moved (by simp) fun k hk => ?_).base (by have := HZ.out; omega)
      have hl := HMZ.out.own.low k hk
      have hne : w.heap.size + 1 + 1 ≠ k := by have := HZ.out; omega
      rw [set_blocks _ _ _ _ hne, set_blocks _ _ _ _ hne, set_blocks _ _ _ _ hne, set_blocks _ _ _ _ hne, set_blocks _ _ _ _ hne]
    obtain ⟨e0, _⟩ := R5.g0
    obtain ⟨e1, _⟩ := R5.g1
    obtain ⟨e2, _⟩ := R5.g2
    obtain ⟨e3, _⟩ := R5.g3
    obtain ⟨e4, _⟩ := R5.g4
    have HBFH : Hid _ := HBF
    have HFE : Hid ((steppedS p m).fin = x1 ∧ (steppedS p m).code = m1.code) := by show _ ∧ _; rw [HSE2.out]; exact ⟨rfl, rfl⟩
    clear R5 RX HMZ HBF
    go_wp2
    refine bodyPost_ret (v := .agg #[.slice xh m1.heap.length yh, .slice xf m1.frames.length yf, .slice xs m1.said.length ys, .int .i64 x1, .int .i64 m1.code]) (by simp [results, Try.results23, go_sem, e0, e1, e2, e3, e4]) rfl ?_
    exact ⟨_, _, _, ch, cf, Th, Tf, by rw [HFE.out.1, HFE.out.2], HOF.out, HBFH.out⟩
  · have HSE : Hid (steppedS p m = m) := by show _ = _; rw [HSS.out, if_neg hf0]
    clear HSS
    have RX := R0.out.on hWX
    obtain ⟨r0, q0⟩ := RX.g0
    obtain ⟨r1, q1⟩ := RX.g1
    obtain ⟨r2, q2⟩ := RX.g2
    obtain ⟨r3, q3⟩ := RX.g3
    obtain ⟨r4, q4⟩ := RX.g4
    obtain ⟨a0, _⟩ := HMX.out.cells.g0
    obtain ⟨a1, _⟩ := HMX.out.cells.g1
    obtain ⟨a2, _⟩ := HMX.out.cells.g2
    obtain ⟨a3, _⟩ := HMX.out.cells.g3
    obtain ⟨a4, _⟩ := HMX.out.cells.g4
    have R5 := five_cells RX (.slice xh m.heap.length yh) (.slice xf m.frames.length yf) (.slice xs m.said.length ys) (.int .i64 m.fin) (.int .i64 m.code)
    have HBF := five_below hwX (show w.heap.size ≤ w.heap.size + 1 + 1 by omega) (.slice xh m.heap.length yh) (.slice xf m.frames.length yf) (.slice xs m.said.length ys) (.int .i64 m.fin) (.int .i64 m.code)
    have HOF : Hid (MOwn w.heap.size (((((X.setCell ⟨w.heap.size + 1 + 1, 0, none⟩ (.slice xh m.heap.length yh)).setCell ⟨w.heap.size + 1 + 1, 1, none⟩ (.slice xf m.frames.length yf)).setCell ⟨w.heap.size + 1 + 1, 2, none⟩ (.slice xs m.said.length ys)).setCell ⟨w.heap.size + 1 + 1, 3, none⟩ (.int .i64 m.fin)).setCell ⟨w.heap.size + 1 + 1, 4, none⟩ (.int .i64 m.code)) (.slice xh m.heap.length yh) (.slice xf m.frames.length yf) (.slice xs m.said.length ys) (steppedS p m) ch cf Th Tf) := by
      show MOwn _ _ _ _ _ _ _ _ _ _
      rw [HSE.out]
      refine (HMX.out.own.moved (by simp) fun k hk => ?_).base (by have := HZ.out; omega)
      have hl := HMX.out.own.low k hk
      have hne : w.heap.size + 1 + 1 ≠ k := by have := HZ.out; omega
      rw [set_blocks _ _ _ _ hne, set_blocks _ _ _ _ hne, set_blocks _ _ _ _ hne, set_blocks _ _ _ _ hne, set_blocks _ _ _ _ hne]
    obtain ⟨e0, _⟩ := R5.g0
    obtain ⟨e1, _⟩ := R5.g1
    obtain ⟨e2, _⟩ := R5.g2
    obtain ⟨e3, _⟩ := R5.g3
    obtain ⟨e4, _⟩ := R5.g4
    have HBFH : Hid _ := HBF
    have hfb : (m.fin == 0) = false := by simpa using hf0
    clear R5 RX HMX HBF
    go_wp2
    refine bodyPost_ret (v := .agg #[.slice xh m.heap.length yh, .slice xf m.frames.length yf, .slice xs m.said.length ys, .int .i64 m.fin, .int .i64 m.code]) (by simp [results, Try.results23, go_sem, e0, e1, e2, e3, e4]) rfl ?_
    exact ⟨_, _, _, ch, cf, Th, Tf, by rw [HSE.out], HOF.out, HBFH.out⟩
end Pg
end Go.Proofs.Ytffkkhaiedhaiaa

/- How a machine begins: the specification's Started. -/
namespace Go.Proofs.Ytffkkhaiedhaiaa
namespace Pg
open Go.ChangeShapes Go.WideShapes Go.ChangeAt Go.RowKit St

set_option maxRecDepth 100000 in
set_option maxHeartbeats 2000000 in
theorem l8Start_at (B : Nat) (p : Prg) (b o cap : Nat) (hok : okP p = true) (w : World) (hp : SK front B w (.slice (some ⟨b, o, none⟩) p.length cap) p) :
    Calls Try.prog 53 #[.agg #[.slice (some ⟨b, o, none⟩) p.length cap]] w fun e w' => ∃ a1 a2, e = .returned (.agg #[.slice a1 1 1, .slice a2 1 1, .slice none 0 0, .int .i64 0, .int .i64 0]) ∧ MZ (fun k => w.heap.size ≤ k ∧ k < w'.heap.size) w' (.slice a1 1 1) (.slice a2 1 1) (.slice none 0 0) (startM p) ∧ Below w.heap.size w w' := by
  have hpl := (okP_len hok).1
  obtain ⟨fl, hfl⟩ : ∃ fl, fl = (fieldsR p 6 0).map valF := ⟨_, rfl⟩
  have HFL : Hid (fl = (fieldsR p 6 0).map valF) := hfl
  have HCO : Hid (∀ u, Below w.heap.size w u → Calls Try.prog 82 #[.agg #[.slice (some ⟨b, o, none⟩) p.length cap], .int .i64 0] u fun e w' => ∃ x y, e = .returned (.agg #[.int .i64 0, .slice x fl.length y]) ∧ VZ (fun k => u.heap.size < k ∧ k < w'.heap.size) w' (.slice x fl.length y) fl ∧ Below u.heap.size u w') := fun u hu => by
    rw [hfl]
    exact l8New_at B p b o cap 0 hok (by omega) u (SK.on hp (Keep.of hu))
  clear hfl hp hok
  obtain ⟨W, hW⟩ : ∃ W, W = (w.alloc (.cells #[.slice (some ⟨b, o, none⟩) p.length cap] 39)).alloc (.cells #[.slice none 0 0, .slice none 0 0, .slice none 0 0, .int .i64 0, .int .i64 0] 44) := ⟨_, rfl⟩
  have hwW : Below w.heap.size w W := by rw [hW]; exact ((Below.refl _ _).alloc (Nat.le_refl _) _).alloc (by simp) _
  have R0 : Hid (Cells W (w.heap.size + 1) [.slice none 0 0, .slice none 0 0, .slice none 0 0, .int .i64 0, .int .i64 0]) := by rw [hW]; exact Cells.new (w.alloc _) _ (by simp) _ _
  have HZ : Hid (W.heap.size = w.heap.size + 1 + 1) := by rw [hW]; show _ = _; simp
  go_enter Try.func53, Try.ntmps53
  go_wp2_with fail
  rw [← hW]
  clear hW
  refine (HCO.out _ hwW).mono ?_
  rintro e w1 ⟨x3, y3, rfl, hv1, hb1⟩
  have hw1 : Below w.heap.size w w1 := below_over hwW hb1
  have HV1 : Hid (VZ (fun k => W.heap.size < k ∧ k < w1.heap.size) w1 (.slice x3 fl.length y3) fl) := hv1
  have R1 : Hid (Cells w1 (w.heap.size + 1) [.slice none 0 0, .slice none 0 0, .slice none 0 0, .int .i64 0, .int .i64 0]) := R0.out.on hb1
  have hz1 : W.heap.size ≤ w1.heap.size := hb1.size
  have HSL : Hid (SV true 0 ((w1.alloc (.cells #[.int .i64 0, .slice x3 fl.length y3] 118)).alloc (.cells #[.int .i64 2, .int .i64 0] 57)) (.slice (some ⟨w1.heap.size + 1, 0, none⟩) ([(2, 0)] : List Vl).length 1) [(2, 0)]) := by
    refine ⟨_, 1, rfl, fun _ h => by simp at h, fun _ => ⟨w1.heap.size + 1, 0, rfl, Nat.zero_le _, ⟨by simp, fun _ j hj => ?_⟩, fun j x hj => ?_⟩⟩
    · simp [go_sem]
    · match j with
      | 0 => simp at hj; subst hj; exact ⟨by simp [go_sem], by simp [go_sem]⟩
      | j + 1 => simp at hj
  clear hv1 hb1 R0 HCO
  go_wp2_with fail
  refine (l8Frame_at 0 0 0 ⟨w1.heap.size + 1, 0, none⟩ 1 [(2, 0)] (by simp) _ HSL.out).mono ?_
  rintro e w2 ⟨x, y, rfl, hv2, hb2⟩
  have hba : Below w1.heap.size w1 ((w1.alloc (.cells #[.int .i64 0, .slice x3 fl.length y3] 118)).alloc (.cells #[.int .i64 2, .int .i64 0] 57)) := ((Below.refl _ _).alloc (Nat.le_refl _) _).alloc (by simp) _
  have hz2 : w1.heap.size + 1 + 1 ≤ w2.heap.size := by have := hb2.size; simpa using this
  have hw12 : Below w1.heap.size w1 w2 := below_over hba hb2
  have CH : Hid (Cells w2 w1.heap.size [.int .i64 0, .slice x3 fl.length y3]) := ((Cells.new w1 _ rfl _ _).alloc _).on hb2
  have HV2 : Hid (VZ (fun k => w1.heap.size + 1 + 1 < k ∧ k < w2.heap.size) w2 (.slice x 8 y) (frmV [(2, 0)])) := hv2.weak fun k hk => ⟨by have := hk.1; simp at this; omega, hk.2⟩
  obtain ⟨V, hV⟩ : ∃ V, V = w2.alloc (.cells #[.int .i64 0, .int .i64 0, .int .i64 0, .slice none 0 0, .slice x 8 y] 49) := ⟨_, rfl⟩
  have hbV : Below w2.heap.size w2 V := by rw [hV]; exact (Below.refl _ _).alloc (Nat.le_refl _) _
  have hVs : V.heap.size = w2.heap.size + 1 := by rw [hV]; simp
  have hVw : Below w.heap.size w V := below_over (below_over hw1 hw12) hbV
  have C1 : Hid (Cells V w1.heap.size [.int .i64 0, .slice x3 fl.length y3]) := CH.out.on hbV
  have C2 : Hid (Cells V w2.heap.size [.int .i64 0, .int .i64 0, .int .i64 0, .slice none 0 0, .slice x 8 y]) := by rw [hV]; exact Cells.new w2 _ rfl _ _
  have F1 : Hid (VZ (fun k => W.heap.size < k ∧ k < w1.heap.size) V (.slice x3 fl.length y3) fl) := (HV1.out.on hw12).on hbV
  have G1 : Hid (VZ (fun k => w1.heap.size + 1 + 1 < k ∧ k < w2.heap.size) V (.slice x 8 y) (frmV [(2, 0)])) := HV2.out.on hbV
  have RV : Hid (Cells V (w.heap.size + 1) [.slice none 0 0, .slice none 0 0, .slice none 0 0, .int .i64 0, .int .i64 0]) := (R1.out.on hw12).on hbV
  obtain ⟨r0, q0⟩ := RV.out.g0
  obtain ⟨r1, q1⟩ := RV.out.g1
  obtain ⟨r2, q2⟩ := RV.out.g2
  obtain ⟨r3, q3⟩ := RV.out.g3
  obtain ⟨r4, q4⟩ := RV.out.g4
  have R5 := (((((RV.out.s0 (.slice (some ⟨w1.heap.size, 0, none⟩) 1 1)).s1 (.slice (some ⟨w2.heap.size, 0, none⟩) 1 1)).s2 (.slice none 0 0)).s3 (.int .i64 0)).s4 (.int .i64 0))
  obtain ⟨e0, _⟩ := R5.g0
  obtain ⟨e1, _⟩ := R5.g1
  obtain ⟨e2, _⟩ := R5.g2
  obtain ⟨e3, _⟩ := R5.g3
  obtain ⟨e4, _⟩ := R5.g4
  have HT : Hid (Tch (fun k => k = w.heap.size + 1) V (((((V.setCell ⟨w.heap.size + 1, 0, none⟩ (.slice (some ⟨w1.heap.size, 0, none⟩) 1 1)).setCell ⟨w.heap.size + 1, 1, none⟩ (.slice (some ⟨w2.heap.size, 0, none⟩) 1 1)).setCell ⟨w.heap.size + 1, 2, none⟩ (.slice none 0 0)).setCell ⟨w.heap.size + 1, 3, none⟩ (.int .i64 0)).setCell ⟨w.heap.size + 1, 4, none⟩ (.int .i64 0))) := (((((Tch.set (S := fun k => k = w.heap.size + 1) V (p := ⟨w.heap.size + 1, 0, none⟩) rfl (.slice (some ⟨w1.heap.size, 0, none⟩) 1 1)).trans (Tch.set (S := fun k => k = w.heap.size + 1) _ (p := ⟨w.heap.size + 1, 1, none⟩) rfl (.slice (some ⟨w2.heap.size, 0, none⟩) 1 1))).trans (Tch.set (S := fun k => k = w.heap.size + 1) _ (p := ⟨w.heap.size + 1, 2, none⟩) rfl (.slice none 0 0))).trans (Tch.set (S := fun k => k = w.heap.size + 1) _ (p := ⟨w.heap.size + 1, 3, none⟩) rfl (.int .i64 0))).trans (Tch.set (S := fun k => k = w.heap.size + 1) _ (p := ⟨w.heap.size + 1, 4, none⟩) rfl (.int .i64 0)))
  have HVS : Hid (V.heap.size = w2.heap.size + 1) := hVs
  clear R5 hv2 hb2 hba hw12 CH HV2 HV1 R1 hbV hVs
  rw [hV] at r0 q0 r1 q1 r2 q2 r3 q3 r4 q4 e0 e1 e2 e3 e4
  go_wp2
  rw [← hV]
  rw [← hV] at e0 e1 e2 e3 e4
  refine bodyPost_ret (v := .agg #[.slice (some ⟨w1.heap.size, 0, none⟩) 1 1, .slice (some ⟨w2.heap.size, 0, none⟩) 1 1, .slice none 0 0, .int .i64 0, .int .i64 0]) (by simp [results, Try.results53, go_sem, e0, e1, e2, e3, e4]) rfl ?_
  have hzz := HZ.out
  have hvv := HVS.out
  refine ⟨_, _, rfl, MZ.start HFL.out C1.out F1.out C2.out G1.out (b := w.heap.size + 1) (fun k hk => ⟨by omega, by omega⟩) (fun k hk => ⟨by omega, by omega⟩) (fun k hk hk2 => by omega) (by omega) (by omega) (by omega) (by omega) (by omega) (by omega) (by omega) HT.out (by omega), hVw.trans (HT.out.below hVw.size (fun k hk => by omega))⟩
set_option maxRecDepth 100000 in
set_option maxHeartbeats 2000000 in
theorem specStarted (B : Nat) (p : Prg) (a : Option Addr) (cap : Nat) (hs : SmallP p) (w : World) (hp : SK front B w (.slice a p.length cap) p) :
    Calls Try.prog 22 #[.agg #[.slice a p.length cap]] w fun e w' => StdAns (startF p).1 (startF p).2 w e w' := by
  have HP : Hid (SK front B w (.slice a p.length cap) p) := hp
  have HS : Hid (SmallP p) := hs
  clear hp hs
  obtain ⟨W, hW⟩ : ∃ W, W = (w.alloc (.cells #[.slice a p.length cap] 39)).alloc (.cells #[.slice none 0 0, .slice none 0 0, .slice none 0 0, .int .i64 0, .int .i64 0] 44) := ⟨_, rfl⟩
  have hwW : Below w.heap.size w W := by rw [hW]; exact ((Below.refl _ _).alloc (Nat.le_refl _) _).alloc (by simp) _
  have P0 : Hid (Cells W w.heap.size [.slice a p.length cap]) := by rw [hW]; exact (Cells.new w _ rfl _ _).alloc _
  have R0 : Hid (Cells W (w.heap.size + 1) [.slice none 0 0, .slice none 0 0, .slice none 0 0, .int .i64 0, .int .i64 0]) := by rw [hW]; exact Cells.new (w.alloc _) _ (by simp) _ _
  have HZ : Hid (W.heap.size = w.heap.size + 1 + 1) := by rw [hW]; show _ = _; simp
  go_enter Try.func22, Try.ntmps22
  go_wp2_with fail
  rw [← hW]
  clear hW
  refine (specProgramOk B p a cap HS.out _ (SK.on HP.out (Keep.of hwW))).mono ?_
  rintro e w1 ⟨rfl, hb1⟩
  have hw1 : Below w.heap.size w w1 := below_over hwW hb1
  have P1 : Hid (Cells w1 w.heap.size [.slice a p.length cap]) := P0.out.on hb1
  have R1 : Hid (Cells w1 (w.heap.size + 1) [.slice none 0 0, .slice none 0 0, .slice none 0 0, .int .i64 0, .int .i64 0]) := R0.out.on hb1
  have hz1 : w.heap.size + 1 + 1 ≤ w1.heap.size := by have := HZ.out; have := hb1.size; omega
  clear hb1
  cases hok : okP p
  · have HF : Hid (startF p = (zeroM, false)) := by show _ = _; simp [startF, hok]
    obtain ⟨r0, q0⟩ := R1.out.g0
    obtain ⟨r1, q1⟩ := R1.out.g1
    obtain ⟨r2, q2⟩ := R1.out.g2
    obtain ⟨r3, q3⟩ := R1.out.g3
    obtain ⟨r4, q4⟩ := R1.out.g4
    have R5 := ((((R1.out.s0 (.slice none 0 0)).s1 (.slice none 0 0)).s2 (.slice none 0 0)).s3 (.int .i64 0)).s4 (.int .i64 0)
    obtain ⟨e0, _⟩ := R5.g0
    obtain ⟨e1, _⟩ := R5.g1
    obtain ⟨e2, _⟩ := R5.g2
    obtain ⟨e3, _⟩ := R5.g3
    obtain ⟨e4, _⟩ := R5.g4
    clear R5 hok
    go_wp2
    refine bodyPost_ret (v := .tuple #[.agg #[.slice none 0 0, .slice none 0 0, .slice none 0 0, .int .i64 0, .int .i64 0], .bool false]) (by simp [results, Try.results22, go_sem, e0, e1, e2, e3, e4]) rfl ?_
    rw [HF.out]
    refine ⟨none, 0, none, 0, none, 0, rfl, MZ.zero _ _, ?_⟩
    exact ((((hw1.setCell (p := ⟨w.heap.size + 1, 0, none⟩) (by simp) _).setCell (p := ⟨w.heap.size + 1, 1, none⟩) (by simp) _).setCell (p := ⟨w.heap.size + 1, 2, none⟩) (by simp) _).setCell (p := ⟨w.heap.size + 1, 3, none⟩) (by simp) _).setCell (p := ⟨w.heap.size + 1, 4, none⟩) (by simp) _
  · have HF : Hid (startF p = (startM p, true)) := by show _ = _; simp [startF, hok]
    have HOK : Hid (okP p = true) := hok
    have hpl := (okP_len hok).1
    obtain ⟨p0, _⟩ := P1.out.g0
    obtain ⟨b, o, rfl, _⟩ := HP.out.get (k := 0) (by omega)
    clear hok
    go_wp2_with fail
    refine (l8Start_at B p b o cap HOK.out _ (SK.on HP.out (Keep.of hw1))).mono ?_
    rintro e w2 ⟨a1, a2, rfl, hm2, hb2⟩
    have hw2 : Below w.heap.size w w2 := below_over hw1 hb2
    have HM2 : Hid (MZ (fun k => w1.heap.size ≤ k ∧ k < w2.heap.size) w2 (.slice a1 1 1) (.slice a2 1 1) (.slice none 0 0) (startM p)) := hm2
    have R2 : Hid (Cells w2 (w.heap.size + 1) [.slice none 0 0, .slice none 0 0, .slice none 0 0, .int .i64 0, .int .i64 0]) := R1.out.on hb2
    obtain ⟨r0, q0⟩ := R2.out.g0
    obtain ⟨r1, q1⟩ := R2.out.g1
    obtain ⟨r2, q2⟩ := R2.out.g2
    obtain ⟨r3, q3⟩ := R2.out.g3
    obtain ⟨r4, q4⟩ := R2.out.g4
    have R5 := (((((R2.out.s0 (.slice a1 1 1)).s1 (.slice a2 1 1)).s2 (.slice none 0 0)).s3 (.int .i64 0)).s4 (.int .i64 0))
    obtain ⟨e0, _⟩ := R5.g0
    obtain ⟨e1, _⟩ := R5.g1
    obtain ⟨e2, _⟩ := R5.g2
    obtain ⟨e3, _⟩ := R5.g3
    obtain ⟨e4, _⟩ := R5.g4
    have HT : Hid (Tch (fun k => k = w.heap.size + 1) w2 (((((w2.setCell ⟨w.heap.size + 1, 0, none⟩ (.slice a1 1 1)).setCell ⟨w.heap.size + 1, 1, none⟩ (.slice a2 1 1)).setCell ⟨w.heap.size + 1, 2, none⟩ (.slice none 0 0)).setCell ⟨w.heap.size + 1, 3, none⟩ (.int .i64 0)).setCell ⟨w.heap.size + 1, 4, none⟩ (.int .i64 0))) := (((((Tch.set (S := fun k => k = w.heap.size + 1) w2 (p := ⟨w.heap.size + 1, 0, none⟩) rfl (.slice a1 1 1)).trans (Tch.set (S := fun k => k = w.heap.size + 1) _ (p := ⟨w.heap.size + 1, 1, none⟩) rfl (.slice a2 1 1))).trans (Tch.set (S := fun k => k = w.heap.size + 1) _ (p := ⟨w.heap.size + 1, 2, none⟩) rfl (.slice none 0 0))).trans (Tch.set (S := fun k => k = w.heap.size + 1) _ (p := ⟨w.heap.size + 1, 3, none⟩) rfl (.int .i64 0))).trans (Tch.set (S := fun k => k = w.heap.size + 1) _ (p := ⟨w.heap.size + 1, 4, none⟩) rfl (.int .i64 0)))
    clear R5 hm2 hb2 p0
    go_wp2
    refine bodyPost_ret (v := .tuple #[.agg #[.slice a1 1 1, .slice a2 1 1, .slice none 0 0, .int .i64 0, .int .i64 0], .bool true]) (by simp [results, Try.results22, go_sem, e0, e1, e2, e3, e4]) rfl ?_
    rw [HF.out]
    refine ⟨_, _, _, _, none, 0, rfl, (HM2.out.tch HT.out (fun k hk hk2 => by omega)).weak (fun k hk => ⟨by omega, by simpa using hk.2⟩), hw2.trans (HT.out.below hw2.size (fun k hk => by omega))⟩
end Pg
end Go.Proofs.Ytffkkhaiedhaiaa
