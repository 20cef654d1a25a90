/- One step of a machine that is handed in: the specification's Stepped. -/
import Derived.Test.YtffkkhaiedhaiaaJMc0
import Derived.Test.YtffkkhaiedhaiaaJMc4
import Derived.Test.YtffkkhaiedhaiaaJMt1
import Derived.Test.YtffkkhaiedhaiaaJMk2
import Derived.Test.YtffkkhaiedhaiaaJPs1
import Derived.Test.YtffkkhaiedhaiaaJMo0
import Derived.Test.YtffkkhaiedhaiaaJRn0
namespace Go.Proofs.Ytffkkhaiedhaiaa
namespace Pg
open Go.ChangeShapes Go.WideShapes Go.ChangeAt Go.RowKit St Wd

theorem smallK_of {m : Mc} (h : Core m) : SmallK m := by
  refine ⟨⟨by have := h.h50; omega, fun o ho => by have := (h.ob o ho).1; show _ ≤ _; omega⟩, ⟨by have := h.f30; omega, fun f hf => ?_⟩, by have := h.s20; omega⟩
  have h1 := (h.fr f hf).s8
  have h2 := (h.fr f hf).l8
  exact ⟨by omega, by omega⟩
theorem MX.setFin {B M : Nat} {w : World} {m : Mc} {vh vf vs : Value} {ch cf : List (List Value)} {Th Tf : Nat → Nat → Nat → Prop} (h : MX B M w m vh vf vs ch cf Th Tf) (x : Int) : MX B M (w.setCell ⟨M, 3, none⟩ (.int .i64 x)) { m with fin := x } vh vf vs ch cf Th Tf := by
  refine ⟨h.cells.set 3 _, h.low, ?_, h.ne⟩
  have hm := h.own.moved (w := w.setCell ⟨M, 3, none⟩ (.int .i64 x)) (by simp) fun k hk => set_blocks w _ _ k (h.ne k hk).symm
  exact ⟨hm.h, hm.f, hm.s, hm.hf, hm.hs, hm.fs, hm.low⟩
set_option maxRecDepth 100000 in
set_option maxHeartbeats 4000000 in
theorem specStepped_at (Bp : Nat) (p : Prg) (bp po cap : Nat) (hok : okP p = true) (hsp : SmallP p) (B0 : Nat) (m : Mc) (hmb : machB m = true) (hps : ∀ f ∈ m.frames, 0 ≤ f.pos ∧ f.pos ≤ 1000) (ah afr va : Option Addr) (chh cfr cva : Nat) (w : World)
    (hp : SK front Bp w (.slice (some ⟨bp, po, none⟩) p.length cap) p) (hk : KV true B0 w (.slice ah m.heap.length chh) (.slice afr m.frames.length cfr) (.slice va m.said.length cva) m) :
    Calls Try.prog 23 #[.agg #[.slice (some ⟨bp, po, none⟩) p.length cap], .agg #[.slice ah m.heap.length chh, .slice afr m.frames.length cfr, .slice va m.said.length cva, .int .i64 m.fin, .int .i64 m.code]] w fun e w' => ∃ vh vf vs ch cf Th Tf, e = .returned (.agg #[vh, vf, vs, .int .i64 (steppedS p m).fin, .int .i64 (steppedS p m).code]) ∧ MOwn w.heap.size w' vh vf vs (steppedS p m) ch cf Th Tf ∧ Below w.heap.size w w' := by
  have hcore := (mach_core m).1 hmb
  obtain ⟨W, hW⟩ : ∃ W, W = ((w.alloc (.cells #[.slice (some ⟨bp, po, none⟩) p.length cap] 39)).alloc (.cells #[.slice ah m.heap.length chh, .slice afr m.frames.length cfr, .slice va m.said.length cva, .int .i64 m.fin, .int .i64 m.code] 44)).alloc (.cells #[.slice none 0 0, .slice none 0 0, .slice none 0 0, .int .i64 0, .int .i64 0] 44) := ⟨_, rfl⟩
  have hwW : Below w.heap.size w W := by rw [hW]; exact (((Below.refl _ _).alloc (Nat.le_refl _) _).alloc (by simp) _).alloc (by simp; omega) _
  have P0 : Hid (Cells W w.heap.size [.slice (some ⟨bp, po, none⟩) p.length cap]) := by rw [hW]; exact ((Cells.new w _ rfl _ _).alloc _).alloc _
  have I0 : Hid (Cells W (w.heap.size + 1) [.slice ah m.heap.length chh, .slice afr m.frames.length cfr, .slice va m.said.length cva, .int .i64 m.fin, .int .i64 m.code]) := by rw [hW]; exact (Cells.new (w.alloc _) _ (by simp) _ _).alloc _
  have R0 : Hid (Cells W (w.heap.size + 1 + 1) [.slice none 0 0, .slice none 0 0, .slice none 0 0, .int .i64 0, .int .i64 0]) := by rw [hW]; exact Cells.new ((w.alloc _).alloc _) _ (by simp) _ _
  have HZ : Hid (W.heap.size = w.heap.size + 1 + 1 + 1) := by show _ = _; rw [hW]; simp
  have HP : Hid (SK front Bp w (.slice (some ⟨bp, po, none⟩) p.length cap) p) := hp
  have HK : Hid (KV true B0 w (.slice ah m.heap.length chh) (.slice afr m.frames.length cfr) (.slice va m.said.length cva) m) := hk
  have HMB : Hid (machB m = true) := hmb
  have HOK : Hid (okP p = true) := hok
  have HPS : Hid (∀ f ∈ m.frames, 0 ≤ f.pos ∧ f.pos ≤ 1000) := hps
  have HCO : Hid (Core m) := hcore.1
  have HFN : Hid (m.fin = 0 → m.frames ≠ []) := hcore.2.2.2
  have HSS : Hid (steppedS p m = if m.fin = 0 then { (stepS p m).1 with fin := (stepS p m).2 } else m) := by show _ = _; unfold steppedS; rw [hok, hmb]; rfl
  have h6 := hcore.2.2.1
  have h0 := hcore.2.1
  have i1 := I0.out.g0.1
  have i2 := I0.out.g1.1
  have i3 := I0.out.g2.1
  have i4 := I0.out.g3.1
  have i5 := I0.out.g4.1
  have p0 := P0.out.g0.1
  clear hcore hp hk hmb hok hps
  go_enter Try.func23, Try.ntmps23
  go_upto_region 1 with fail
  rw [← hW]
  clear hW
  go_wp2_with fail
  refine (specProgramOk Bp p _ cap hsp W (SK.on HP.out (Keep.of hwW))).mono ?_
  rw [HOK.out]
  rintro e w1 ⟨rfl, hb1⟩
  have hw1 : Below w.heap.size w w1 := below_over hwW hb1
  have hW1 : Below W.heap.size W w1 := hb1
  clear i1 i2 i3 i4 i5 p0 hb1
  have i1 := (I0.out.on hW1).g0.1
  have i2 := (I0.out.on hW1).g1.1
  have i3 := (I0.out.on hW1).g2.1
  have i4 := (I0.out.on hW1).g3.1
  have i5 := (I0.out.on hW1).g4.1
  go_wp2_with fail
  refine (specMachineOk B0 m ah afr va chh cfr cva (smallK_of HCO.out) w1 (HK.out.on (Keep.of hw1))).mono ?_
  rw [HMB.out]
  rintro e w2 ⟨rfl, hb2⟩
  have hw2 : Below w.heap.size w w2 := below_over hw1 hb2
  have hW2 : Below W.heap.size W w2 := below_over hW1 hb2
  clear i1 i2 i3 i4 i5 hb2 hW1 hw1
  have i1 := (I0.out.on hW2).g0.1
  have i2 := (I0.out.on hW2).g1.1
  have i3 := (I0.out.on hW2).g2.1
  have i4 := (I0.out.on hW2).g3.1
  have i5 := (I0.out.on hW2).g4.1
  go_wp2_with fail
  refine (l8Copy_at B0 m HCO.out ah afr va chh cfr cva w2 (HK.out.on (Keep.of hw2))).mono ?_
  rintro e w3 ⟨vh, vf, vs, ch, cf, Th, Tf, rfl, hown, hb3⟩
  obtain ⟨xh, yh, rfl⟩ := own_any hown.h.own
  obtain ⟨xf, yf, rfl⟩ := own_any hown.f.own
  obtain ⟨xs, ys, rfl⟩ := own_any hown.s
  have hw3 : Below w.heap.size w w3 := below_over hw2 hb3
  have hW3 : Below W.heap.size W w3 := below_over hW2 hb3
  obtain ⟨X, hX⟩ : ∃ X, X = w3.alloc (.cells #[.slice xh m.heap.length yh, .slice xf m.frames.length yf, .slice xs m.said.length ys, .int .i64 m.fin, .int .i64 m.code] 44) := ⟨_, rfl⟩
  have h3X : Below w3.heap.size w3 X := by rw [hX]; exact (Below.refl _ _).alloc (Nat.le_refl _) _
  have hwX : Below w.heap.size w X := below_over hw3 h3X
  have hWX : Below W.heap.size W X := below_over hW3 h3X
  have HMX : Hid (MX W.heap.size w3.heap.size X m (.slice xh m.heap.length yh) (.slice xf m.frames.length yf) (.slice xs m.said.length ys) ch cf Th Tf) :=
    ⟨by rw [hX]; exact Cells.new w3 _ rfl _ _, hW3.size, (hown.on h3X).base hW2.size, fun k hk => by have := hown.lt k hk; omega⟩
  have i4X := (I0.out.on hWX).g3.1
  have p0X := (P0.out.on hWX).g0.1
  clear hown hb3 i1 i2 i3 i4 i5 hW2 hw2
  go_upto_region 4 with fail
  rw [← hX]
  clear hX h3X
  by_cases hf0 : m.fin = 0
  · have HSE : Hid (steppedS p m = { (stepS p m).1 with fin := (stepS p m).2 }) := by show _ = _; rw [HSS.out, if_pos hf0]
    rw [hf0] at i4X
    have HCALL : Hid (Calls Try.prog 56 #[.agg #[.slice (some ⟨bp, po, none⟩) p.length cap], .pointer (some ⟨w3.heap.size, 0, none⟩)] X fun e w' => e = .returned (.int .i64 (stepS p m).2) ∧ MSt W.heap.size w3.heap.size w' (stepS p m).1 ∧ Below W.heap.size X w') :=
      l8Step_at Bp p bp po cap HOK.out W.heap.size w3.heap.size m HCO.out (HFN.out hf0) HPS.out X hWX.size HMX.out.st (SK.on HP.out (Keep.of hwX)) fun f hl => l8Call_at Bp p bp po cap HOK.out hsp W.heap.size w3.heap.size m HCO.out f hl
    clear HMX hf0 HSS
    go_wp2_with fail
    refine HCALL.out.mono ?_
    rintro e Y ⟨rfl, hM, hXY⟩
    obtain ⟨vh, vf, vs, ch, cf, Th, Tf, h1, h2, h3, h4⟩ := hM
    obtain ⟨xh, yh, rfl⟩ := own_any h3.h.own
    obtain ⟨xf, yf, rfl⟩ := own_any h3.f.own
    obtain ⟨xs, ys, rfl⟩ := own_any h3.s
    have hWY : Below W.heap.size W Y := hWX.trans hXY
    have hwY : Below w.heap.size w Y := below_over hwW hWY
    generalize hm1 : (stepS p m).1 = m1 at *
    generalize hx1 : (stepS p m).2 = x1 at *
    have HSE2 : Hid (steppedS p m = { m1 with fin := x1 }) := HSE.out
    clear HSE hm1 hx1 HCALL i4X p0X
    have hMX : MX W.heap.size w3.heap.size Y m1 (.slice xh m1.heap.length yh) (.slice xf m1.frames.length yf) (.slice xs m1.said.length ys) ch cf Th Tf := ⟨h1, h2, h3, h4⟩
    obtain ⟨c3, f3⟩ := h1.g3
    have HMZ : Hid (MX W.heap.size w3.heap.size (Y.setCell ⟨w3.heap.size, 3, none⟩ (.int .i64 x1)) { m1 with fin := x1 } (.slice xh m1.heap.length yh) (.slice xf m1.frames.length yf) (.slice xs m1.said.length ys) ch cf Th Tf) := hMX.setFin x1
    have hWZ : Below W.heap.size W (Y.setCell ⟨w3.heap.size, 3, none⟩ (.int .i64 x1)) := hWY.setCell hW3.size _
    clear h1 h2 h3 h4 hMX
    go_upto_region 6 with fail
    generalize Y.setCell ⟨w3.heap.size, 3, none⟩ (.int .i64 x1) = Z at *
    have hwZ : Below w.heap.size w Z := below_over hwW hWZ
    clear c3 f3
    have RX := R0.out.on hWZ
    obtain ⟨r0, q0⟩ := RX.g0
    obtain ⟨r1, q1⟩ := RX.g1
    obtain ⟨r2, q2⟩ := RX.g2
    obtain ⟨r3, q3⟩ := RX.g3
    obtain ⟨r4, q4⟩ := RX.g4
    obtain ⟨a0, _⟩ := HMZ.out.cells.g0
    obtain ⟨a1, _⟩ := HMZ.out.cells.g1
    obtain ⟨a2, _⟩ := HMZ.out.cells.g2
    obtain ⟨a3, _⟩ := HMZ.out.cells.g3
    obtain ⟨a4, _⟩ := HMZ.out.cells.g4
    dsimp only at a3 a4
    have R5 := five_cells RX (.slice xh m1.heap.length yh) (.slice xf m1.frames.length yf) (.slice xs m1.said.length ys) (.int .i64 x1) (.int .i64 m1.code)
    have HBF := five_below hwZ (show w.heap.size ≤ w.heap.size + 1 + 1 by omega) (.slice xh m1.heap.length yh) (.slice xf m1.frames.length yf) (.slice xs m1.said.length ys) (.int .i64 x1) (.int .i64 m1.code)
    have HOF : Hid (MOwn w.heap.size (((((Z.setCell ⟨w.heap.size + 1 + 1, 0, none⟩ (.slice xh m1.heap.length yh)).setCell ⟨w.heap.size + 1 + 1, 1, none⟩ (.slice xf m1.frames.length yf)).setCell ⟨w.heap.size + 1 + 1, 2, none⟩ (.slice xs m1.said.length ys)).setCell ⟨w.heap.size + 1 + 1, 3, none⟩ (.int .i64 x1)).setCell ⟨w.heap.size + 1 + 1, 4, none⟩ (.int .i64 m1.code)) (.slice xh m1.heap.length yh) (.slice xf m1.frames.length yf) (.slice xs m1.said.length ys) (steppedS p m) ch cf Th Tf) := by
      show MOwn _ _ _ _ _ _ _ _ _ _
      rw [HSE2.out]
      refine (HMZ.out.own.moved (by simp) fun k hk => ?_).base (by have := HZ.out; omega)
      have hl := HMZ.out.own.low k hk
      have hne : w.heap.size + 1 + 1 ≠ k := by have := HZ.out; omega
      rw [set_blocks _ _ _ _ hne, set_blocks _ _ _ _ hne, set_blocks _ _ _ _ hne, set_blocks _ _ _ _ hne, set_blocks _ _ _ _ hne]
    obtain ⟨e0, _⟩ := R5.g0
    obtain ⟨e1, _⟩ := R5.g1
    obtain ⟨e2, _⟩ := R5.g2
    obtain ⟨e3, _⟩ := R5.g3
    obtain ⟨e4, _⟩ := R5.g4
    have HBFH : Hid _ := HBF
    have HFE : Hid ((steppedS p m).fin = x1 ∧ (steppedS p m).code = m1.code) := by show _ ∧ _; rw [HSE2.out]; exact ⟨rfl, rfl⟩
    clear R5 RX HMZ HBF
    go_wp2
    refine bodyPost_ret (v := .agg #[.slice xh m1.heap.length yh, .slice xf m1.frames.length yf, .slice xs m1.said.length ys, .int .i64 x1, .int .i64 m1.code]) (by simp [results, Try.results23, go_sem, e0, e1, e2, e3, e4]) rfl ?_
    exact ⟨_, _, _, ch, cf, Th, Tf, by rw [HFE.out.1, HFE.out.2], HOF.out, HBFH.out⟩
  · have HSE : Hid (steppedS p m = m) := by show _ = _; rw [HSS.out, if_neg hf0]
    clear HSS
    have RX := R0.out.on hWX
    obtain ⟨r0, q0⟩ := RX.g0
    obtain ⟨r1, q1⟩ := RX.g1
    obtain ⟨r2, q2⟩ := RX.g2
    obtain ⟨r3, q3⟩ := RX.g3
    obtain ⟨r4, q4⟩ := RX.g4
    obtain ⟨a0, _⟩ := HMX.out.cells.g0
    obtain ⟨a1, _⟩ := HMX.out.cells.g1
    obtain ⟨a2, _⟩ := HMX.out.cells.g2
    obtain ⟨a3, _⟩ := HMX.out.cells.g3
    obtain ⟨a4, _⟩ := HMX.out.cells.g4
    have R5 := five_cells RX (.slice xh m.heap.length yh) (.slice xf m.frames.length yf) (.slice xs m.said.length ys) (.int .i64 m.fin) (.int .i64 m.code)
    have HBF := five_below hwX (show w.heap.size ≤ w.heap.size + 1 + 1 by omega) (.slice xh m.heap.length yh) (.slice xf m.frames.length yf) (.slice xs m.said.length ys) (.int .i64 m.fin) (.int .i64 m.code)
    have HOF : Hid (MOwn w.heap.size (((((X.setCell ⟨w.heap.size + 1 + 1, 0, none⟩ (.slice xh m.heap.length yh)).setCell ⟨w.heap.size + 1 + 1, 1, none⟩ (.slice xf m.frames.length yf)).setCell ⟨w.heap.size + 1 + 1, 2, none⟩ (.slice xs m.said.length ys)).setCell ⟨w.heap.size + 1 + 1, 3, none⟩ (.int .i64 m.fin)).setCell ⟨w.heap.size + 1 + 1, 4, none⟩ (.int .i64 m.code)) (.slice xh m.heap.length yh) (.slice xf m.frames.length yf) (.slice xs m.said.length ys) (steppedS p m) ch cf Th Tf) := by
      show MOwn _ _ _ _ _ _ _ _ _ _
      rw [HSE.out]
      refine (HMX.out.own.moved (by simp) fun k hk => ?_).base (by have := HZ.out; omega)
      have hl := HMX.out.own.low k hk
      have hne : w.heap.size + 1 + 1 ≠ k := by have := HZ.out; omega
      rw [set_blocks _ _ _ _ hne, set_blocks _ _ _ _ hne, set_blocks _ _ _ _ hne, set_blocks _ _ _ _ hne, set_blocks _ _ _ _ hne]
    obtain ⟨e0, _⟩ := R5.g0
    obtain ⟨e1, _⟩ := R5.g1
    obtain ⟨e2, _⟩ := R5.g2
    obtain ⟨e3, _⟩ := R5.g3
    obtain ⟨e4, _⟩ := R5.g4
    have HBFH : Hid _ := HBF
    have hfb : (m.fin == 0) = false := by simpa using hf0
    clear R5 RX HMX HBF
    go_wp2
    refine bodyPost_ret (v := .agg #[.slice xh m.heap.length yh, .slice xf m.frames.length yf, .slice xs m.said.length ys, .int .i64 m.fin, .int .i64 m.code]) (by simp [results, Try.results23, go_sem, e0, e1, e2, e3, e4]) rfl ?_
    exact ⟨_, _, _, ch, cf, Th, Tf, by rw [HSE.out], HOF.out, HBFH.out⟩
end Pg
end Go.Proofs.Ytffkkhaiedhaiaa

/- How a machine begins, in memory of its own; a run of the specification's machine. -/
namespace Go.Proofs.Ytffkkhaiedhaiaa
namespace Pg
open Go.ChangeShapes Go.WideShapes Go.ChangeAt Go.RowKit St Wd

theorem own_on {u w : World} {B q n : Nat} {e : TypeId} {v : Value} {xs : List Value} (h : u.ownsRow B e q v n xs) (hb : Below u.heap.size u w) : w.ownsRow B e q v n xs :=
  own_moved h fun g hg => hb.block g (h.lt g hg).2
/-- The first machine, out of its rows. -/
theorem MOwn.first {p : Prg} {fl : List Vl} (hfl : fl = (fieldsR p 6 0).map valF) {V F : World} {B N W1 W2 b : Nat} {x3 : Option Addr} {y3 : Nat} {x : Option Addr} {y : Nat}
    (hO : V.ownsRow B 118 2 (.slice (some ⟨W1, 0, none⟩) 1 1) 1 [.int .i64 0, .slice x3 fl.length y3]) (hV1 : VZ (fun k => N < k ∧ k < W1) V (.slice x3 fl.length y3) fl)
    (hF : V.ownsRow B 49 5 (.slice (some ⟨W2, 0, none⟩) 1 1) 1 [.int .i64 0, .int .i64 0, .int .i64 0, .slice none 0 0, .slice x 8 y]) (hV2 : VZ (fun k => W1 + 1 + 1 < k ∧ k < W2) V (.slice x 8 y) (frmV [(2, 0)]))
    (h1 : B ≤ b) (h2 : b < N) (_h3 : N ≤ W1) (h4 : W1 + 1 + 1 ≤ W2) (h5 : W2 < V.heap.size) (h6 : b < W1) (h7 : b < W2) (hT : Tch (fun k => k = b) V F) (h8 : B ≤ W1) :
    MOwn B F (.slice (some ⟨W1, 0, none⟩) 1 1) (.slice (some ⟨W2, 0, none⟩) 1 1) (.slice none 0 0) (startM p) [[.slice x3 fl.length y3]] [[.slice none 0 0, .slice x 8 y]] (fun i j k => i = 0 ∧ j = 0 ∧ N < k ∧ k < W1) (fun i j k => i = 0 ∧ j = 1 ∧ W1 + 1 + 1 < k ∧ k < W2) := by
  have hsz := hT.size
  have hfar : ∀ k, k < V.heap.size → k ≠ b → F.heap[k]? = V.heap[k]? := fun k hk hne => hT.far k hk hne
  have hO' : F.ownsRow B 118 2 (.slice (some ⟨W1, 0, none⟩) 1 1) 1 [.int .i64 0, .slice x3 fl.length y3] := own_moved hO fun g hg => by
    have : g = W1 := by simpa [Value.ownBlock] using hg.symm
    exact hfar g (by omega) (by omega)
  have hF' : F.ownsRow B 49 5 (.slice (some ⟨W2, 0, none⟩) 1 1) 1 [.int .i64 0, .int .i64 0, .int .i64 0, .slice none 0 0, .slice x 8 y] := own_moved hF fun g hg => by
    have : g = W2 := by simpa [Value.ownBlock] using hg.symm
    exact hfar g (by omega) (by omega)
  have hV1' : VZ (fun k => N < k ∧ k < W1) F (.slice x3 fl.length y3) fl := hV1.moved hsz fun k hk hl => hfar k hl (by omega)
  have hV2' : VZ (fun k => W1 + 1 + 1 < k ∧ k < W2) F (.slice x 8 y) (frmV [(2, 0)]) := hV2.moved hsz fun k hk hl => hfar k hl (by omega)
  refine ⟨⟨rfl, hO', ?_, ?_, ?_, ?_, ?_⟩, ⟨rfl, hF', ?_, ?_, ?_, ?_, ?_⟩, World.ownsRow_nil _ _ _ _, ?_, ?_, ?_, ?_⟩
  · rintro i j k ⟨_, _, hk1, hk2⟩; simp [Value.ownBlock]; omega
  · rintro i j k ⟨_, _, hk1, hk2⟩; omega
  · rintro i j i' j' k ⟨rfl, rfl, _⟩ ⟨rfl, rfl, _⟩; exact ⟨rfl, rfl⟩
  · intro i ys hi
    cases i with
    | zero => simp at hi; subst hi; rfl
    | succ i => simp at hi
  · intro i o ys hi hy j rr z hj hz
    cases i with
    | zero =>
      simp [startM] at hi; subst hi
      simp at hy; subst hy
      cases j with
      | zero =>
        simp only [recO, List.getElem?_cons_zero, Option.some.injEq] at hj hz
        rw [← hfl] at hj
        subst hj hz
        exact hV1'.weak fun k hk => ⟨rfl, rfl, hk⟩
      | succ j => simp at hz
    | succ i => simp [startM] at hi
  · rintro i j k ⟨_, _, hk1, hk2⟩; simp [Value.ownBlock]; omega
  · rintro i j k ⟨_, _, hk1, hk2⟩; omega
  · rintro i j i' j' k ⟨rfl, rfl, _⟩ ⟨rfl, rfl, _⟩; exact ⟨rfl, rfl⟩
  · intro i ys hi
    cases i with
    | zero => simp at hi; subst hi; rfl
    | succ i => simp at hi
  · intro i o ys hi hy j rr z hj hz
    cases i with
    | zero =>
      simp [startM] at hi; subst hi
      simp at hy; subst hy
      match j with
      | 0 =>
        simp [recF] at hj; subst hj
        simp at hz; subst hz
        exact .inr ⟨rfl, rfl⟩
      | 1 =>
        simp [recF] at hj; subst hj
        simp at hz; subst hz
        exact hV2'.weak fun k hk => ⟨rfl, rfl, hk⟩
      | j + 2 => simp at hz
    | succ i => simp [startM] at hi
  · rintro k (hk | ⟨i, j, _, _, hk1, hk2⟩) (hk' | ⟨i', j', _, _, hk1', hk2'⟩)
    · simp [Value.ownBlock] at hk hk'; omega
    · simp [Value.ownBlock] at hk; omega
    · simp [Value.ownBlock] at hk'; omega
    · omega
  · rintro k _; simp [Value.ownBlock]
  · rintro k _; simp [Value.ownBlock]
  · rintro k ((hk | ⟨i, j, _, _, hk1, hk2⟩) | (hk | ⟨i, j, _, _, hk1, hk2⟩) | hk)
    · simp [Value.ownBlock] at hk; omega
    · omega
    · simp [Value.ownBlock] at hk; omega
    · omega
    · simp [Value.ownBlock] at hk
set_option maxRecDepth 100000 in
set_option maxHeartbeats 2000000 in
theorem l8StartO_at (B : Nat) (p : Prg) (b o cap : Nat) (hok : okP p = true) (w : World) (hp : SK front B w (.slice (some ⟨b, o, none⟩) p.length cap) p) :
    Calls Try.prog 53 #[.agg #[.slice (some ⟨b, o, none⟩) p.length cap]] w fun e w' => ∃ vh vf ch cf Th Tf, e = .returned (.agg #[vh, vf, .slice none 0 0, .int .i64 0, .int .i64 0]) ∧ MOwn w.heap.size w' vh vf (.slice none 0 0) (startM p) ch cf Th Tf ∧ Below w.heap.size w w' := by
  have hpl := (okP_len hok).1
  obtain ⟨fl, hfl⟩ : ∃ fl, fl = (fieldsR p 6 0).map valF := ⟨_, rfl⟩
  have HFL : Hid (fl = (fieldsR p 6 0).map valF) := hfl
  have HCO : Hid (∀ u, Below w.heap.size w u → Calls Try.prog 82 #[.agg #[.slice (some ⟨b, o, none⟩) p.length cap], .int .i64 0] u fun e w' => ∃ x y, e = .returned (.agg #[.int .i64 0, .slice x fl.length y]) ∧ VZ (fun k => u.heap.size < k ∧ k < w'.heap.size) w' (.slice x fl.length y) fl ∧ Below u.heap.size u w') := fun u hu => by
    rw [hfl]
    exact l8New_at B p b o cap 0 hok (by omega) u (SK.on hp (Keep.of hu))
  clear hfl hp hok
  obtain ⟨W, hW⟩ : ∃ W, W = (w.alloc (.cells #[.slice (some ⟨b, o, none⟩) p.length cap] 39)).alloc (.cells #[.slice none 0 0, .slice none 0 0, .slice none 0 0, .int .i64 0, .int .i64 0] 44) := ⟨_, rfl⟩
  have hwW : Below w.heap.size w W := by rw [hW]; exact ((Below.refl _ _).alloc (Nat.le_refl _) _).alloc (by simp) _
  have R0 : Hid (Cells W (w.heap.size + 1) [.slice none 0 0, .slice none 0 0, .slice none 0 0, .int .i64 0, .int .i64 0]) := by rw [hW]; exact Cells.new (w.alloc _) _ (by simp) _ _
  have HZ : Hid (W.heap.size = w.heap.size + 1 + 1) := by rw [hW]; show _ = _; simp
  go_enter Try.func53, Try.ntmps53
  go_wp2_with fail
  rw [← hW]
  clear hW
  refine (HCO.out _ hwW).mono ?_
  rintro e w1 ⟨x3, y3, rfl, hv1, hb1⟩
  have hw1 : Below w.heap.size w w1 := below_over hwW hb1
  have HV1 : Hid (VZ (fun k => W.heap.size < k ∧ k < w1.heap.size) w1 (.slice x3 fl.length y3) fl) := hv1
  have R1 : Hid (Cells w1 (w.heap.size + 1) [.slice none 0 0, .slice none 0 0, .slice none 0 0, .int .i64 0, .int .i64 0]) := R0.out.on hb1
  have hz1 : W.heap.size ≤ w1.heap.size := hb1.size
  have HSL : Hid (SV true 0 ((w1.alloc (.cells #[.int .i64 0, .slice x3 fl.length y3] 118)).alloc (.cells #[.int .i64 2, .int .i64 0] 57)) (.slice (some ⟨w1.heap.size + 1, 0, none⟩) ([(2, 0)] : List Vl).length 1) [(2, 0)]) := by
    refine ⟨_, 1, rfl, fun _ h => by simp at h, fun _ => ⟨w1.heap.size + 1, 0, rfl, Nat.zero_le _, ⟨by simp, fun _ j hj => ?_⟩, fun j x hj => ?_⟩⟩
    · simp [go_sem]
    · match j with
      | 0 => simp at hj; subst hj; exact ⟨by simp [go_sem], by simp [go_sem]⟩
      | j + 1 => simp at hj
  clear hv1 hb1 R0 HCO
  go_wp2_with fail
  refine (l8Frame_at 0 0 0 ⟨w1.heap.size + 1, 0, none⟩ 1 [(2, 0)] (by simp) _ HSL.out).mono ?_
  rintro e w2 ⟨x, y, rfl, hv2, hb2⟩
  have hba : Below w1.heap.size w1 ((w1.alloc (.cells #[.int .i64 0, .slice x3 fl.length y3] 118)).alloc (.cells #[.int .i64 2, .int .i64 0] 57)) := ((Below.refl _ _).alloc (Nat.le_refl _) _).alloc (by simp) _
  have hz2 : w1.heap.size + 1 + 1 ≤ w2.heap.size := by have := hb2.size; simpa using this
  have hw12 : Below w1.heap.size w1 w2 := below_over hba hb2
  have CH : Hid (World.ownsRow w2 w.heap.size 118 2 (.slice (some ⟨w1.heap.size, 0, none⟩) 1 1) 1 [.int .i64 0, .slice x3 fl.length y3]) := own_on ((World.ownsRow_lit w1 #[.int .i64 0, .slice x3 fl.length y3] 1 hw1.size (by decide) rfl).alloc _) hb2
  have HV2 : Hid (VZ (fun k => w1.heap.size + 1 + 1 < k ∧ k < w2.heap.size) w2 (.slice x 8 y) (frmV [(2, 0)])) := hv2.weak fun k hk => ⟨by have := hk.1; simp at this; omega, hk.2⟩
  obtain ⟨V, hV⟩ : ∃ V, V = w2.alloc (.cells #[.int .i64 0, .int .i64 0, .int .i64 0, .slice none 0 0, .slice x 8 y] 49) := ⟨_, rfl⟩
  have hbV : Below w2.heap.size w2 V := by rw [hV]; exact (Below.refl _ _).alloc (Nat.le_refl _) _
  have hVs : V.heap.size = w2.heap.size + 1 := by rw [hV]; simp
  have hVw : Below w.heap.size w V := below_over (below_over hw1 hw12) hbV
  have C1 : Hid (World.ownsRow V w.heap.size 118 2 (.slice (some ⟨w1.heap.size, 0, none⟩) 1 1) 1 [.int .i64 0, .slice x3 fl.length y3]) := own_on CH.out hbV
  have C2 : Hid (World.ownsRow V w.heap.size 49 5 (.slice (some ⟨w2.heap.size, 0, none⟩) 1 1) 1 [.int .i64 0, .int .i64 0, .int .i64 0, .slice none 0 0, .slice x 8 y]) := by rw [hV]; exact World.ownsRow_lit w2 #[.int .i64 0, .int .i64 0, .int .i64 0, .slice none 0 0, .slice x 8 y] 1 (below_over hw1 hw12).size (by decide) rfl
  have F1 : Hid (VZ (fun k => W.heap.size < k ∧ k < w1.heap.size) V (.slice x3 fl.length y3) fl) := (HV1.out.on hw12).on hbV
  have G1 : Hid (VZ (fun k => w1.heap.size + 1 + 1 < k ∧ k < w2.heap.size) V (.slice x 8 y) (frmV [(2, 0)])) := HV2.out.on hbV
  have RV : Hid (Cells V (w.heap.size + 1) [.slice none 0 0, .slice none 0 0, .slice none 0 0, .int .i64 0, .int .i64 0]) := (R1.out.on hw12).on hbV
  obtain ⟨r0, q0⟩ := RV.out.g0
  obtain ⟨r1, q1⟩ := RV.out.g1
  obtain ⟨r2, q2⟩ := RV.out.g2
  obtain ⟨r3, q3⟩ := RV.out.g3
  obtain ⟨r4, q4⟩ := RV.out.g4
  have R5 := (((((RV.out.s0 (.slice (some ⟨w1.heap.size, 0, none⟩) 1 1)).s1 (.slice (some ⟨w2.heap.size, 0, none⟩) 1 1)).s2 (.slice none 0 0)).s3 (.int .i64 0)).s4 (.int .i64 0))
  obtain ⟨e0, _⟩ := R5.g0
  obtain ⟨e1, _⟩ := R5.g1
  obtain ⟨e2, _⟩ := R5.g2
  obtain ⟨e3, _⟩ := R5.g3
  obtain ⟨e4, _⟩ := R5.g4
  have HT : Hid (Tch (fun k => k = w.heap.size + 1) V (((((V.setCell ⟨w.heap.size + 1, 0, none⟩ (.slice (some ⟨w1.heap.size, 0, none⟩) 1 1)).setCell ⟨w.heap.size + 1, 1, none⟩ (.slice (some ⟨w2.heap.size, 0, none⟩) 1 1)).setCell ⟨w.heap.size + 1, 2, none⟩ (.slice none 0 0)).setCell ⟨w.heap.size + 1, 3, none⟩ (.int .i64 0)).setCell ⟨w.heap.size + 1, 4, none⟩ (.int .i64 0))) := (((((Tch.set (S := fun k => k = w.heap.size + 1) V (p := ⟨w.heap.size + 1, 0, none⟩) rfl (.slice (some ⟨w1.heap.size, 0, none⟩) 1 1)).trans (Tch.set (S := fun k => k = w.heap.size + 1) _ (p := ⟨w.heap.size + 1, 1, none⟩) rfl (.slice (some ⟨w2.heap.size, 0, none⟩) 1 1))).trans (Tch.set (S := fun k => k = w.heap.size + 1) _ (p := ⟨w.heap.size + 1, 2, none⟩) rfl (.slice none 0 0))).trans (Tch.set (S := fun k => k = w.heap.size + 1) _ (p := ⟨w.heap.size + 1, 3, none⟩) rfl (.int .i64 0))).trans (Tch.set (S := fun k => k = w.heap.size + 1) _ (p := ⟨w.heap.size + 1, 4, none⟩) rfl (.int .i64 0)))
  have HVS : Hid (V.heap.size = w2.heap.size + 1) := hVs
  clear R5 hv2 hb2 hba hw12 CH HV2 HV1 R1 hbV hVs
  rw [hV] at r0 q0 r1 q1 r2 q2 r3 q3 r4 q4 e0 e1 e2 e3 e4
  go_wp2
  rw [← hV]
  rw [← hV] at e0 e1 e2 e3 e4
  refine bodyPost_ret (v := .agg #[.slice (some ⟨w1.heap.size, 0, none⟩) 1 1, .slice (some ⟨w2.heap.size, 0, none⟩) 1 1, .slice none 0 0, .int .i64 0, .int .i64 0]) (by simp [results, Try.results53, go_sem, e0, e1, e2, e3, e4]) rfl ?_
  have hzz := HZ.out
  have hvv := HVS.out
  refine ⟨_, _, _, _, _, _, rfl, MOwn.first HFL.out C1.out F1.out C2.out G1.out (b := w.heap.size + 1) (by omega) (by omega) (by omega) (by omega) (by omega) (by omega) (by omega) HT.out (by omega), hVw.trans (HT.out.below hVw.size (fun k hk => by omega))⟩
end Pg
end Go.Proofs.Ytffkkhaiedhaiaa

/- A run of the specification's machine. -/
namespace Go.Proofs.Ytffkkhaiedhaiaa
namespace Pg
open Go.ChangeShapes Go.WideShapes Go.ChangeAt Go.RowKit St Wd

theorem ran_zero (p : Prg) (m : Mc) : ranS p 0 m = (m, 0) := rfl
theorem start_mach {p : Prg} (hok : okP p = true) : machB (startM p) = true := by
  have h6 := (okP_len hok)
  have h24 : (fieldsR p 6 0).length ≤ 24 := fields_24 hok (by omega)
  rw [mach_core]
  refine ⟨⟨by simp [startM], by simp [startM], by simp [startM], fun o ho => ?_, fun f hf => ?_, fun x hx => by simp [startM] at hx⟩, by simp [startM], by simp [startM], fun _ => by simp [startM]⟩
  · simp only [startM, List.mem_singleton] at ho
    subst ho
    exact ⟨by simpa using h24, vs_flds _⟩
  · simp only [startM, List.mem_singleton] at hf
    subst hf
    exact ⟨by simp, frmV_len (by simp), vs_nil, vs_frm (vs_one (by decide))⟩
set_option maxRecDepth 100000 in
set_option maxHeartbeats 4000000 in
theorem l8Ran_at (Bp : Nat) (p : Prg) (bp po cap : Nat) (hok : okP p = true) (hsp : SmallP p) (n : Nat) (hn : n ≤ 20000) (w : World) (hp : SK front Bp w (.slice (some ⟨bp, po, none⟩) p.length cap) p) :
    Calls Try.prog 61 #[.agg #[.slice (some ⟨bp, po, none⟩) p.length cap], .int .i64 (n : Int)] w fun e w' => ∃ vh vf vs ch cf Th Tf, e = .returned (.tuple #[.agg #[vh, vf, vs, .int .i64 (ranS p n (startM p)).1.fin, .int .i64 (ranS p n (startM p)).1.code], .int .i64 ((ranS p n (startM p)).2 : Int)]) ∧ MOwn w.heap.size w' vh vf vs (ranS p n (startM p)).1 ch cf Th Tf ∧ Below w.heap.size w w' := by
  obtain ⟨W, hW⟩ : ∃ W, W = (w.alloc (.cells #[.slice (some ⟨bp, po, none⟩) p.length cap] 39)).alloc (.cells #[.slice none 0 0, .slice none 0 0, .slice none 0 0, .int .i64 0, .int .i64 0] 44) := ⟨_, rfl⟩
  have hwW : Below w.heap.size w W := by rw [hW]; exact ((Below.refl _ _).alloc (Nat.le_refl _) _).alloc (by simp) _
  have P0 : Hid (Cells W w.heap.size [.slice (some ⟨bp, po, none⟩) p.length cap]) := by rw [hW]; exact (Cells.new w _ rfl _ _).alloc _
  have R0 : Hid (Cells W (w.heap.size + 1) [.slice none 0 0, .slice none 0 0, .slice none 0 0, .int .i64 0, .int .i64 0]) := by rw [hW]; exact Cells.new (w.alloc _) _ (by simp) _ _
  have HZ : Hid (W.heap.size = w.heap.size + 1 + 1) := by show _ = _; rw [hW]; simp
  have HP : Hid (SK front Bp w (.slice (some ⟨bp, po, none⟩) p.length cap) p) := hp
  have HOK : Hid (okP p = true) := hok
  have HSP : Hid (SmallP p) := hsp
  have HR : Hid (ranS p n (startM p) = ((ranS p n (startM p)).1, (ranS p n (startM p)).2)) := rfl
  obtain ⟨R1, hR1⟩ : ∃ R1, R1 = (ranS p n (startM p)).1 := ⟨_, rfl⟩
  obtain ⟨R2, hR2⟩ : ∃ R2, R2 = (ranS p n (startM p)).2 := ⟨_, rfl⟩
  have HRR : Hid ((ranS p n (startM p)).1 = R1 ∧ (ranS p n (startM p)).2 + 0 = R2) := ⟨hR1.symm, hR2.symm⟩
  rw [← hR1, ← hR2]
  have p0 := P0.out.g0.1
  clear hp hok hsp HR hR1 hR2
  go_enter Try.func61, Try.ntmps61
  go_upto_region 1 with fail
  rw [← hW]
  clear hW
  go_wp2_with fail
  refine (l8StartO_at Bp p bp po cap HOK.out W (SK.on HP.out (Keep.of hwW))).mono ?_
  rintro e w1 ⟨vh, vf, ch, cf, Th, Tf, rfl, hown, hb1⟩
  obtain ⟨xh, yh, rfl⟩ := own_any hown.h.own
  obtain ⟨xf, yf, rfl⟩ := own_any hown.f.own
  obtain ⟨X, hX⟩ : ∃ X, X = w1.alloc (.cells #[.slice xh (startM p).heap.length yh, .slice xf (startM p).frames.length yf, .slice none 0 0, .int .i64 0, .int .i64 0] 44) := ⟨_, rfl⟩
  have h1X : Below w1.heap.size w1 X := by rw [hX]; exact (Below.refl _ _).alloc (Nat.le_refl _) _
  have hWX : Below W.heap.size W X := below_over hb1 h1X
  have HMX : Hid (MSt W.heap.size w1.heap.size X (startM p)) :=
    ⟨_, _, _, ch, cf, Th, Tf, by rw [hX]; exact Cells.new w1 _ rfl _ _, hb1.size, hown.on h1X, fun k hk => by have := hown.lt k hk; omega⟩
  have HMB : Hid (machB (startM p) = true) := start_mach HOK.out
  have HPB : Hid (PosB (startM p)) := PosB.start p
  have hMz : W.heap.size ≤ w1.heap.size := hb1.size
  clear hown hb1 p0
  go_upto_region 2 with fail
  rw [← hX]
  clear hX h1X
  generalize startM p = m0 at *
  go_wp2
  go_loopw [7] (fun i wr => ∃ (k : Nat) (m : Mc), k ≤ n ∧ i = .int .i64 (k : Int) ∧ Hid (MSt W.heap.size w1.heap.size wr m) ∧ Hid (machB m = true) ∧ Hid (m.fin = 0 → PosB m) ∧ Hid ((ranS p (n - k) m).1 = R1 ∧ (ranS p (n - k) m).2 + k = R2) ∧ Below W.heap.size W wr) (fun i _ => n - (intOf i).toNat)
  case atStart => exact ⟨0, m0, Nat.zero_le _, rfl, HMX.out, HMB.out, fun _ => HPB.out, HRR.out, hWX⟩
  case round =>
    clear HMX HMB HPB HRR hWX
    obtain ⟨k, m, hk, rfl, hM, hMB, hPB, HRK, hb⟩ := hrel
    by_cases hgo : k < n ∧ m.fin = 0
    · obtain ⟨hkn, hf0⟩ := hgo
      have hki : (k : Int) < (n : Int) := by omega
      have hfb : (m.fin == 0) = true := by simpa using hf0
      have hmc := (mach_core m).1 hMB.out
      have hpb := hPB.out hf0
      obtain ⟨j, hj⟩ : ∃ j, n - k = j + 1 := ⟨n - k - 1, by omega⟩
      have HRN : Hid ((ranS p (n - (k + 1)) { (stepS p m).1 with fin := (stepS p m).2 }).1 = R1 ∧ (ranS p (n - (k + 1)) { (stepS p m).1 with fin := (stepS p m).2 }).2 + (k + 1) = R2) := by
        show _ ∧ _
        have h := HRK.out
        rw [hj, ran_step hf0] at h
        rw [show n - (k + 1) = j by omega]
        exact ⟨h.1, by have := h.2; dsimp only at this; omega⟩
      have HMN : Hid (machB { (stepS p m).1 with fin := (stepS p m).2 } = true) := mach_step HOK.out hMB.out
      have HPN : Hid (({ (stepS p m).1 with fin := (stepS p m).2 } : Mc).fin = 0 → PosB { (stepS p m).1 with fin := (stepS p m).2 }) := fun h0 => by
        have := hpb.step HOK.out h0
        exact ⟨this.all, this.low⟩
      have HCALL : Hid (Calls Try.prog 56 #[.agg #[.slice (some ⟨bp, po, none⟩) p.length cap], .pointer (some ⟨w1.heap.size, 0, none⟩)] wr fun e w' => e = .returned (.int .i64 (stepS p m).2) ∧ MSt W.heap.size w1.heap.size w' (stepS p m).1 ∧ Below W.heap.size wr w') :=
        l8Step_at Bp p bp po cap HOK.out W.heap.size w1.heap.size m hmc.1 (hmc.2.2.2 hf0) hpb.thou wr hb.size hM.out (SK.on HP.out (Keep.of (below_over hwW hb))) fun f hl => l8Call_at Bp p bp po cap HOK.out HSP.out W.heap.size w1.heap.size m hmc.1 f hl
      have p0 := (P0.out.on hb).g0.1
      obtain ⟨vh, vf, vs, ch, cf, Th, Tf, h1, h2, h3, h4⟩ := hM.out
      obtain ⟨c3, _⟩ := h1.g3
      rw [hf0] at c3
      clear h1 h2 h3 h4 hmc hpb HRK hMB hPB hj hM hf0
      go_wp2_with fail
      refine HCALL.out.mono ?_
      rintro e Y ⟨rfl, hM, hXY⟩
      obtain ⟨vh, vf, vs, ch, cf, Th, Tf, h1, h2, h3, h4⟩ := hM
      have hWY : Below W.heap.size W Y := hb.trans hXY
      generalize hm1 : (stepS p m).1 = m1 at *
      generalize hx1 : (stepS p m).2 = x1 at *
      clear hm1 hx1 HCALL c3 p0 hXY hb
      obtain ⟨c3, f3⟩ := h1.g3
      have hMX : MX W.heap.size w1.heap.size Y m1 vh vf vs ch cf Th Tf := ⟨h1, h2, h3, h4⟩
      have HMZ : Hid (MSt W.heap.size w1.heap.size (Y.setCell ⟨w1.heap.size, 3, none⟩ (.int .i64 x1)) { m1 with fin := x1 }) := (hMX.setFin x1).st
      have hWZ : Below W.heap.size W (Y.setCell ⟨w1.heap.size, 3, none⟩ (.int .i64 x1)) := hWY.setCell hMz _
      clear h1 h2 h3 h4 hMX
      go_wp2
      go_roundw
      case rel => exact ⟨k + 1, _, by omega, by go_num, HMZ.out, HMN.out, HPN.out, HRN.out, hWZ⟩
      case measure => simp [intOf]; omega
    · by_cases hkn : k < n
      · have hf0 : m.fin ≠ 0 := fun h => hgo ⟨hkn, h⟩
        have hki : (k : Int) < (n : Int) := by omega
        have hfb : (m.fin == 0) = false := by simpa using hf0
        clear hgo
        obtain ⟨hR1, hR2⟩ : R1 = m ∧ R2 = k := by
          have h := HRK.out
          rw [ran_end hf0] at h
          obtain ⟨h1, h2⟩ := h
          exact ⟨h1.symm, by simpa using h2.symm⟩
        clear hf0
        subst hR1 hR2
        obtain ⟨vh, vf, vs, ch, cf, Th, Tf, h1, h2, h3, h4⟩ := hM.out
        obtain ⟨xh, yh, rfl⟩ := own_any h3.h.own
        obtain ⟨xf, yf, rfl⟩ := own_any h3.f.own
        obtain ⟨xs, ys, rfl⟩ := own_any h3.s
        have hwr : Below w.heap.size w wr := below_over hwW hb
        have RX := R0.out.on hb
        obtain ⟨r0, q0⟩ := RX.g0
        obtain ⟨r1, q1⟩ := RX.g1
        obtain ⟨r2, q2⟩ := RX.g2
        obtain ⟨r3, q3⟩ := RX.g3
        obtain ⟨r4, q4⟩ := RX.g4
        obtain ⟨a0, _⟩ := h1.g0
        obtain ⟨a1, _⟩ := h1.g1
        obtain ⟨a2, _⟩ := h1.g2
        obtain ⟨a3, _⟩ := h1.g3
        obtain ⟨a4, _⟩ := h1.g4
        have R5 := five_cells RX (.slice xh R1.heap.length yh) (.slice xf R1.frames.length yf) (.slice xs R1.said.length ys) (.int .i64 R1.fin) (.int .i64 R1.code)
        have HBF := five_below hwr (show w.heap.size ≤ w.heap.size + 1 by omega) (.slice xh R1.heap.length yh) (.slice xf R1.frames.length yf) (.slice xs R1.said.length ys) (.int .i64 R1.fin) (.int .i64 R1.code)
        have HOF : Hid (MOwn w.heap.size (((((wr.setCell ⟨w.heap.size + 1, 0, none⟩ (.slice xh R1.heap.length yh)).setCell ⟨w.heap.size + 1, 1, none⟩ (.slice xf R1.frames.length yf)).setCell ⟨w.heap.size + 1, 2, none⟩ (.slice xs R1.said.length ys)).setCell ⟨w.heap.size + 1, 3, none⟩ (.int .i64 R1.fin)).setCell ⟨w.heap.size + 1, 4, none⟩ (.int .i64 R1.code)) (.slice xh R1.heap.length yh) (.slice xf R1.frames.length yf) (.slice xs R1.said.length ys) R1 ch cf Th Tf) := by
          show MOwn _ _ _ _ _ _ _ _ _ _
          refine (h3.moved (by simp) fun k hk => ?_).base (by have := HZ.out; omega)
          have hl := h3.low k hk
          have hne : w.heap.size + 1 ≠ k := by have := HZ.out; omega
          rw [set_blocks _ _ _ _ hne, set_blocks _ _ _ _ hne, set_blocks _ _ _ _ hne, set_blocks _ _ _ _ hne, set_blocks _ _ _ _ hne]
        obtain ⟨e0, _⟩ := R5.g0
        obtain ⟨e1, _⟩ := R5.g1
        obtain ⟨e2, _⟩ := R5.g2
        obtain ⟨e3, _⟩ := R5.g3
        obtain ⟨e4, _⟩ := R5.g4
        have HBFH : Hid _ := HBF
        clear R5 RX HBF h1 h2 h3 h4 hb hwr HRK hM hMB hPB
        go_wp2
        refine bodyPost_ret (v := .tuple #[.agg #[.slice xh R1.heap.length yh, .slice xf R1.frames.length yf, .slice xs R1.said.length ys, .int .i64 R1.fin, .int .i64 R1.code], .int .i64 (R2 : Int)]) (by simp [results, Try.results61, go_sem, e0, e1, e2, e3, e4]) rfl ?_
        exact ⟨_, _, _, ch, cf, Th, Tf, rfl, HOF.out, HBFH.out⟩
      · obtain rfl : k = n := by omega
        clear hgo hkn
        obtain ⟨hR1, hR2⟩ : R1 = m ∧ R2 = k := by
          have h := HRK.out
          rw [Nat.sub_self, ran_zero] at h
          obtain ⟨h1, h2⟩ := h
          exact ⟨h1.symm, by simpa using h2.symm⟩
        subst hR1 hR2
        obtain ⟨vh, vf, vs, ch, cf, Th, Tf, h1, h2, h3, h4⟩ := hM.out
        obtain ⟨xh, yh, rfl⟩ := own_any h3.h.own
        obtain ⟨xf, yf, rfl⟩ := own_any h3.f.own
        obtain ⟨xs, ys, rfl⟩ := own_any h3.s
        have hwr : Below w.heap.size w wr := below_over hwW hb
        have RX := R0.out.on hb
        obtain ⟨r0, q0⟩ := RX.g0
        obtain ⟨r1, q1⟩ := RX.g1
        obtain ⟨r2, q2⟩ := RX.g2
        obtain ⟨r3, q3⟩ := RX.g3
        obtain ⟨r4, q4⟩ := RX.g4
        obtain ⟨a0, _⟩ := h1.g0
        obtain ⟨a1, _⟩ := h1.g1
        obtain ⟨a2, _⟩ := h1.g2
        obtain ⟨a3, _⟩ := h1.g3
        obtain ⟨a4, _⟩ := h1.g4
        have R5 := five_cells RX (.slice xh R1.heap.length yh) (.slice xf R1.frames.length yf) (.slice xs R1.said.length ys) (.int .i64 R1.fin) (.int .i64 R1.code)
        have HBF := five_below hwr (show w.heap.size ≤ w.heap.size + 1 by omega) (.slice xh R1.heap.length yh) (.slice xf R1.frames.length yf) (.slice xs R1.said.length ys) (.int .i64 R1.fin) (.int .i64 R1.code)
        have HOF : Hid (MOwn w.heap.size (((((wr.setCell ⟨w.heap.size + 1, 0, none⟩ (.slice xh R1.heap.length yh)).setCell ⟨w.heap.size + 1, 1, none⟩ (.slice xf R1.frames.length yf)).setCell ⟨w.heap.size + 1, 2, none⟩ (.slice xs R1.said.length ys)).setCell ⟨w.heap.size + 1, 3, none⟩ (.int .i64 R1.fin)).setCell ⟨w.heap.size + 1, 4, none⟩ (.int .i64 R1.code)) (.slice xh R1.heap.length yh) (.slice xf R1.frames.length yf) (.slice xs R1.said.length ys) R1 ch cf Th Tf) := by
          show MOwn _ _ _ _ _ _ _ _ _ _
          refine (h3.moved (by simp) fun k hk => ?_).base (by have := HZ.out; omega)
          have hl := h3.low k hk
          have hne : w.heap.size + 1 ≠ k := by have := HZ.out; omega
          rw [set_blocks _ _ _ _ hne, set_blocks _ _ _ _ hne, set_blocks _ _ _ _ hne, set_blocks _ _ _ _ hne, set_blocks _ _ _ _ hne]
        obtain ⟨e0, _⟩ := R5.g0
        obtain ⟨e1, _⟩ := R5.g1
        obtain ⟨e2, _⟩ := R5.g2
        obtain ⟨e3, _⟩ := R5.g3
        obtain ⟨e4, _⟩ := R5.g4
        have HBFH : Hid _ := HBF
        clear R5 RX HBF h1 h2 h3 h4 hb hwr HRK hM hMB hPB
        go_wp2
        refine bodyPost_ret (v := .tuple #[.agg #[.slice xh R1.heap.length yh, .slice xf R1.frames.length yf, .slice xs R1.said.length ys, .int .i64 R1.fin, .int .i64 R1.code], .int .i64 (R2 : Int)]) (by simp [results, Try.results61, go_sem, e0, e1, e2, e3, e4]) rfl ?_
        exact ⟨_, _, _, ch, cf, Th, Tf, rfl, HOF.out, HBFH.out⟩
set_option maxRecDepth 100000 in
set_option maxHeartbeats 4000000 in
theorem specRan_at (Bp : Nat) (p : Prg) (bp po cap : Nat) (hok : okP p = true) (hsp : SmallP p) (n : Nat) (hn : n ≤ 20000) (w : World) (hp : SK front Bp w (.slice (some ⟨bp, po, none⟩) p.length cap) p) :
    Calls Try.prog 28 #[.agg #[.slice (some ⟨bp, po, none⟩) p.length cap], .int .i64 (n : Int)] w fun e w' => ∃ vh vf vs ch cf Th Tf, e = .returned (.agg #[vh, vf, vs, .int .i64 (ranS p n (startM p)).1.fin, .int .i64 (ranS p n (startM p)).1.code]) ∧ MOwn w.heap.size w' vh vf vs (ranS p n (startM p)).1 ch cf Th Tf ∧ Below w.heap.size w w' := by
  obtain ⟨W, hW⟩ : ∃ W, W = (w.alloc (.cells #[.slice (some ⟨bp, po, none⟩) p.length cap] 39)).alloc (.cells #[.slice none 0 0, .slice none 0 0, .slice none 0 0, .int .i64 0, .int .i64 0] 44) := ⟨_, rfl⟩
  have hwW : Below w.heap.size w W := by rw [hW]; exact ((Below.refl _ _).alloc (Nat.le_refl _) _).alloc (by simp) _
  have P0 : Hid (Cells W w.heap.size [.slice (some ⟨bp, po, none⟩) p.length cap]) := by rw [hW]; exact (Cells.new w _ rfl _ _).alloc _
  have R0 : Hid (Cells W (w.heap.size + 1) [.slice none 0 0, .slice none 0 0, .slice none 0 0, .int .i64 0, .int .i64 0]) := by rw [hW]; exact Cells.new (w.alloc _) _ (by simp) _ _
  have HZ : Hid (W.heap.size = w.heap.size + 1 + 1) := by show _ = _; rw [hW]; simp
  have HP : Hid (SK front Bp w (.slice (some ⟨bp, po, none⟩) p.length cap) p) := hp
  have HOK : Hid (okP p = true) := hok
  have HSP : Hid (SmallP p) := hsp
  have HCO : Hid (Core (ranS p n (startM p)).1) := ((mach_core _).1 (ran_ok hok n _ (start_mach hok))).1
  obtain ⟨m, hm⟩ : ∃ m, m = (ranS p n (startM p)).1 := ⟨_, rfl⟩
  obtain ⟨kk, hkk⟩ : ∃ kk, kk = (ranS p n (startM p)).2 := ⟨_, rfl⟩
  have HME : Hid (m = (ranS p n (startM p)).1) := hm
  have HKE : Hid (kk = (ranS p n (startM p)).2) := hkk
  rw [← hm] at HCO ⊢
  have p0 := P0.out.g0.1
  clear hp hok hsp hm hkk
  go_enter Try.func28, Try.ntmps28
  go_upto_region 1 with fail
  rw [← hW]
  clear hW
  go_wp2_with fail
  refine (specProgramOk Bp p _ cap HSP.out W (SK.on HP.out (Keep.of hwW))).mono ?_
  rw [HOK.out]
  rintro e w1 ⟨rfl, hb1⟩
  clear p0
  go_wp2_with fail
  refine (l1In _ _ _ w1).mono ?_
  rintro e w2 ⟨rfl, rfl⟩
  have hW2 : Below W.heap.size W w1 := hb1
  have hdn : (decide ((0 : Int) ≤ (n : Int)) && decide ((n : Int) ≤ 20000)) = true := by simp; omega
  rw [hdn]
  have p0 := (P0.out.on hW2).g0.1
  clear hb1 hdn
  go_wp2_with fail
  have HRC := l8Ran_at Bp p bp po cap HOK.out HSP.out n hn w1 (SK.on HP.out (Keep.of (below_over hwW hW2)))
  rw [← HME.out, ← HKE.out] at HRC
  refine HRC.mono ?_
  clear HRC
  rintro e w3 ⟨vh, vf, vs, ch, cf, Th, Tf, rfl, hown, hb3⟩
  have hW3 : Below W.heap.size W w3 := below_over hW2 hb3
  obtain ⟨xh, yh, rfl⟩ := own_any hown.h.own
  obtain ⟨xf, yf, rfl⟩ := own_any hown.f.own
  obtain ⟨xs, ys, rfl⟩ := own_any hown.s
  have HKV : Hid (KV true 0 w3 (.slice xh m.heap.length yh) (.slice xf m.frames.length yf) (.slice xs m.said.length ys) m) := hown.kv
  clear hown hb3 p0 hW2
  dsimp only
  obtain ⟨X, hX⟩ : ∃ X, X = w3.alloc (.cells #[.slice xh m.heap.length yh, .slice xf m.frames.length yf, .slice xs m.said.length ys, .int .i64 m.fin, .int .i64 m.code] 44) := ⟨_, rfl⟩
  have h3X : Below w3.heap.size w3 X := by rw [hX]; exact (Below.refl _ _).alloc (Nat.le_refl _) _
  have M0 : Hid (Cells X w3.heap.size [.slice xh m.heap.length yh, .slice xf m.frames.length yf, .slice xs m.said.length ys, .int .i64 m.fin, .int .i64 m.code]) := by rw [hX]; exact Cells.new w3 _ rfl _ _
  have HKX : Hid (KV true 0 X (.slice xh m.heap.length yh) (.slice xf m.frames.length yf) (.slice xs m.said.length ys) m) := HKV.out.on (Keep.of h3X)
  have hWX : Below W.heap.size W X := below_over hW3 h3X
  obtain ⟨a0, _⟩ := M0.out.g0
  obtain ⟨a1, _⟩ := M0.out.g1
  obtain ⟨a2, _⟩ := M0.out.g2
  obtain ⟨a3, _⟩ := M0.out.g3
  obtain ⟨a4, _⟩ := M0.out.g4
  clear h3X HKV hW3
  go_upto_region 4 with fail
  rw [← hX]
  clear hX
  go_wp2_with fail
  refine (l8Copy_at 0 m HCO.out xh xf xs yh yf ys X HKX.out).mono ?_
  rintro e Y ⟨vh, vf, vs, ch, cf, Th, Tf, rfl, hown, hbY⟩
  obtain ⟨xh, yh, rfl⟩ := own_any hown.h.own
  obtain ⟨xf, yf, rfl⟩ := own_any hown.f.own
  obtain ⟨xs, ys, rfl⟩ := own_any hown.s
  have hWY : Below W.heap.size W Y := below_over hWX hbY
  have hwY : Below w.heap.size w Y := below_over hwW hWY
  have RX := R0.out.on hWY
  obtain ⟨r0, q0⟩ := RX.g0
  obtain ⟨r1, q1⟩ := RX.g1
  obtain ⟨r2, q2⟩ := RX.g2
  obtain ⟨r3, q3⟩ := RX.g3
  obtain ⟨r4, q4⟩ := RX.g4
  have R5 := five_cells RX (.slice xh m.heap.length yh) (.slice xf m.frames.length yf) (.slice xs m.said.length ys) (.int .i64 m.fin) (.int .i64 m.code)
  have HBF := five_below hwY (show w.heap.size ≤ w.heap.size + 1 by omega) (.slice xh m.heap.length yh) (.slice xf m.frames.length yf) (.slice xs m.said.length ys) (.int .i64 m.fin) (.int .i64 m.code)
  have HOF : Hid (MOwn w.heap.size (((((Y.setCell ⟨w.heap.size + 1, 0, none⟩ (.slice xh m.heap.length yh)).setCell ⟨w.heap.size + 1, 1, none⟩ (.slice xf m.frames.length yf)).setCell ⟨w.heap.size + 1, 2, none⟩ (.slice xs m.said.length ys)).setCell ⟨w.heap.size + 1, 3, none⟩ (.int .i64 m.fin)).setCell ⟨w.heap.size + 1, 4, none⟩ (.int .i64 m.code)) (.slice xh m.heap.length yh) (.slice xf m.frames.length yf) (.slice xs m.said.length ys) m ch cf Th Tf) := by
    show MOwn _ _ _ _ _ _ _ _ _ _
    have hXs := hWX.size
    refine (hown.moved (by simp) fun k hk => ?_).base (by have := HZ.out; omega)
    have hl := hown.low k hk
    have hne : w.heap.size + 1 ≠ k := by have := HZ.out; omega
    rw [set_blocks _ _ _ _ hne, set_blocks _ _ _ _ hne, set_blocks _ _ _ _ hne, set_blocks _ _ _ _ hne, set_blocks _ _ _ _ hne]
  obtain ⟨e0, _⟩ := R5.g0
  obtain ⟨e1, _⟩ := R5.g1
  obtain ⟨e2, _⟩ := R5.g2
  obtain ⟨e3, _⟩ := R5.g3
  obtain ⟨e4, _⟩ := R5.g4
  have HBFH : Hid _ := HBF
  clear R5 RX HBF hown hbY hWY hwY a0 a1 a2 a3 a4 M0 HKX
  go_wp2
  refine bodyPost_ret (v := .agg #[.slice xh m.heap.length yh, .slice xf m.frames.length yf, .slice xs m.said.length ys, .int .i64 m.fin, .int .i64 m.code]) (by simp [results, Try.results28, go_sem, e0, e1, e2, e3, e4]) rfl ?_
  exact ⟨_, _, _, ch, cf, Th, Tf, rfl, HOF.out, HBFH.out⟩
end Pg
end Go.Proofs.Ytffkkhaiedhaiaa
