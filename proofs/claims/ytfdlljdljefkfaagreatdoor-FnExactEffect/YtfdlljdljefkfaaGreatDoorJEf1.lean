/- Contracts of the program's states: which are right. -/
import Derived.Test.YtfdlljdljefkfaaGreatDoorJDk5
import Derived.Test.YtfdlljdljefkfaaGreatDoorJKs1
import Derived.Test.YtfdlljdljefkfaaGreatDoorJDkD
import Derived.Test.YtfdlljdljefkfaaGreatDoorJEn2
namespace Go.Proofs.YtfdlljdljefkfaaGreatDoor
namespace Pg
open Go.ChangeShapes Go.WideShapes Go.ChangeAt Go.RowKit St
attribute [local go_sem] as_int_null as_int_none as_int_class as_null_null as_null_none as_null_class as_none_null as_none_none as_none_class as_class_null as_class_none as_class_class

set_option maxRecDepth 100000 in
set_option maxHeartbeats 1000000 in
theorem areKindsS (B : Nat) (n : Nat) (hn : n ≤ 1048576) (a : Option Addr) (cap : Nat) (z : Option Addr) (c : Nat) (l : List Int) (hl : l.length ≤ 1048576) (w : World) (hr : SI true B w (.slice z l.length c) l) :
    Calls Tryz.prog 62 #[.agg #[.slice a n cap], .slice z l.length c] w fun e w' => e = .returned (.bool (l.all (kindB n))) ∧ Below w.heap.size w w' := by
  have HR : Hid (SI true B w (.slice z l.length c) l) := hr
  clear hr
  obtain ⟨W, hW⟩ : ∃ W, W = w.alloc (.cells #[.slice a n cap] 37) := ⟨_, rfl⟩
  have hwW : Below w.heap.size w W := by rw [hW]; exact (Below.refl _ _).alloc (Nat.le_refl _) _
  have P0 : Hid (Cells W w.heap.size [.slice a n cap]) := by rw [hW]; exact Cells.new w _ rfl _ _
  go_enter Tryz.func62, Tryz.ntmps62
  go_wp2
  rw [← hW]
  clear hW
  go_loopw [11] (fun i wr => ∃ k : Nat, k ≤ l.length ∧ i = .int .i64 k ∧ Hid ((l.take k).all (kindB n) = true) ∧ Below W.heap.size W wr) (fun i _ => l.length - (intOf i).toNat)
  case atStart => exact ⟨0, Nat.zero_le _, rfl, rfl, Below.refl _ _⟩
  case round =>
    obtain ⟨k, hk, rfl, hall, hb⟩ := hrel
    have hwr : Below w.heap.size w wr := below_over hwW hb
    by_cases hlt : k < l.length
    · obtain ⟨b, o, rfl, _, a0⟩ := (SI.on HR.out (Keep.of hwr)).get hlt
      have HT : Hid (l.take (k + 1) = l.take k ++ [l[k]]) := by show _ = _; rw [List.take_succ_eq_append_getElem hlt]
      have HM : Hid (l[k] ∈ l) := List.getElem_mem hlt
      generalize l[k] = x at *
      have a0 : wr.cell? ⟨b, o + k, none⟩ = some (.int .i64 x) := by simpa [IntAt] using a0
      have hki : (k : Int) < (l.length : Int) := by omega
      have HNO : Hid (kindB n x = false → l.all (kindB n) = false) := by
        show _ → _
        intro h
        cases h2 : l.all (kindB n)
        · rfl
        · rw [List.all_eq_true.1 h2 x HM.out] at h; cases h
      have HYE : Hid (kindB n x = true → (l.take (k + 1)).all (kindB n) = true) := by
        show _ → _
        intro h
        rw [HT.out, List.all_append, hall.out]
        simp [h]
      clear hall HT HM
      obtain ⟨q0, _⟩ := (P0.out.on hb).g0
      have hxc : x = -1 ∨ x = -2 ∨ x = -3 ∨ (¬ x = -1 ∧ ¬ x = -2 ∧ ¬ x = -3) := by omega
      rcases hxc with rfl | rfl | rfl | ⟨h1, h2, h3⟩
      · have HY : Hid ((l.take (k + 1)).all (kindB n) = true) := HYE.out (by simp [kindB]; omega)
        have hbC : Below W.heap.size W (wr.alloc (.cells #[.int .i64 0] 135)) := hb.alloc hb.size _
        go_wp2_with fail
        refine (shapeOf_at (-1) _).mono ?_
        rw [shV_int]
        rintro e w1 ⟨rfl, rfl⟩
        go_wp2
        go_roundw
        case rel => exact ⟨k + 1, by omega, by go_num, HY.out, hbC⟩
        case measure => simp [intOf]; omega
      · have HY : Hid ((l.take (k + 1)).all (kindB n) = true) := HYE.out (by simp [kindB]; omega)
        have hbC : Below W.heap.size W (wr.alloc (.cells #[.int .i64 0] 135)) := hb.alloc hb.size _
        go_wp2_with fail
        refine (shapeOf_at (-2) _).mono ?_
        rw [shV_null]
        rintro e w1 ⟨rfl, rfl⟩
        go_wp2
        go_roundw
        case rel => exact ⟨k + 1, by omega, by go_num, HY.out, hbC⟩
        case measure => simp [intOf]; omega
      · have HY : Hid ((l.take (k + 1)).all (kindB n) = true) := HYE.out (by simp [kindB]; omega)
        have hbC : Below W.heap.size W (wr.alloc (.cells #[.int .i64 0] 135)) := hb.alloc hb.size _
        go_wp2_with fail
        refine (shapeOf_at (-3) _).mono ?_
        rw [shV_none]
        rintro e w1 ⟨rfl, rfl⟩
        go_wp2
        go_roundw
        case rel => exact ⟨k + 1, by omega, by go_num, HY.out, hbC⟩
        case measure => simp [intOf]; omega
      · have HS : Hid (shV x = .iface 135 (.agg #[.int .i64 x])) := by show _ = _; simp [shV, h1, h2, h3]
        have HKB : Hid (kindB n x = (decide (0 ≤ x) && decide (x < (n : Int)))) := by
          show _ = _
          by_cases h0 : 0 ≤ x
          · have : -3 ≤ x := by omega
            simp [kindB, h0, this]
          · have : ¬ -3 ≤ x := by omega
            simp [kindB, h0, this]
        have hbC : Below W.heap.size W (wr.alloc (.cells #[.int .i64 x] 135)) := hb.alloc hb.size _
        obtain ⟨q1, _⟩ := (P0.out.on hbC).g0
        go_wp2_with fail
        refine (shapeOf_at x _).mono ?_
        rw [HS.out]
        rintro e w1 ⟨rfl, rfl⟩
        go_wp2_with fail
        refine (hasClass a n cap x _).mono ?_
        rw [← HKB.out]
        rintro e w2 ⟨rfl, hb2⟩
        have hb3 : Below W.heap.size W w2 := below_over hbC hb2
        cases hkb : kindB n x
        · have HN : Hid (l.all (kindB n) = false) := HNO.out hkb
          go_wp2
          go_ret
          exact ⟨by rw [HN.out]; rfl, below_over hwW hb3⟩
        · have HY : Hid ((l.take (k + 1)).all (kindB n) = true) := HYE.out hkb
          go_wp2
          go_roundw
          case rel => exact ⟨k + 1, by omega, by go_num, HY.out, hb3⟩
          case measure => simp [intOf]; omega
    · have HN : Hid (l.all (kindB n) = true) := by
        show _ = _
        have := hall.out
        rw [List.take_of_length_le (by omega)] at this
        exact this
      go_wp2
      go_ret
      exact ⟨by rw [HN.out]; rfl, hwr⟩
set_option maxRecDepth 100000 in
set_option maxHeartbeats 1000000 in
theorem isState_at (B : Nat) (n : Nat) (hn : n ≤ 1048576) (a : Option Addr) (cap : Nat) (z1 z2 : Option Addr) (c1 c2 : Nat) (st lo : List Int) (h1 : st.length ≤ 1048576) (h2 : lo.length ≤ 1048576) (w : World) (hs : SI true B w (.slice z1 st.length c1) st) (ho : SI true B w (.slice z2 lo.length c2) lo) :
    Calls Tryz.prog 46 #[.agg #[.slice a n cap], .agg #[.slice z1 st.length c1, .slice z2 lo.length c2]] w fun e w' => e = .returned (.bool (stateB n st lo)) ∧ Below w.heap.size w w' := by
  have HS : Hid (SI true B w (.slice z1 st.length c1) st) := hs
  have HO : Hid (SI true B w (.slice z2 lo.length c2) lo) := ho
  clear hs ho
  obtain ⟨W, hW⟩ : ∃ W, W = (w.alloc (.cells #[.slice a n cap] 37)).alloc (.cells #[.slice z1 st.length c1, .slice z2 lo.length c2] 32) := ⟨_, rfl⟩
  have hwW : Below w.heap.size w W := by rw [hW]; exact ((Below.refl _ _).alloc (Nat.le_refl _) _).alloc (by simp) _
  have P0 : Hid (Cells W w.heap.size [.slice a n cap]) := by rw [hW]; exact (Cells.new w _ rfl _ _).alloc _
  have S0 : Hid (Cells W (w.heap.size + 1) [.slice z1 st.length c1, .slice z2 lo.length c2]) := by rw [hW]; exact Cells.new _ _ (by simp) _ _
  by_cases hst : st.length ≤ 8
  · by_cases hlo : lo.length = 8
    · have hsi : ¬ (8 : Int) < (st.length : Int) := by omega
      have hli : ((lo.length : Int) != 8) = false := by rw [hlo]; rfl
      cases hA : st.all (kindB n)
      · have HR : Hid (stateB n st lo = false) := by show _ = _; simp [stateB, hst, hlo, hA]
        rw [HR.out]
        have HA : Hid (st.all (kindB n) = false) := hA
        clear hlo hA
        go_enter Tryz.func46, Tryz.ntmps46
        go_wp2_with fail
        rw [← hW]
        clear hW
        refine (areKindsS B n hn a cap z1 c1 st h1 W (SI.on HS.out (Keep.of hwW))).mono ?_
        rw [HA.out]
        rintro e w1 ⟨rfl, hb1⟩
        have hw1 : Below w.heap.size w w1 := below_over hwW hb1
        obtain ⟨q0, _⟩ := (P0.out.on hb1).g0
        obtain ⟨q1, _⟩ := (S0.out.on hb1).g1
        clear hb1
        go_wp2
        go_ret
        exact ⟨rfl, hw1⟩
      · have HR : Hid (stateB n st lo = lo.all (kindB n)) := by show _ = _; simp [stateB, hst, hlo, hA]
        rw [HR.out]
        have HA : Hid (st.all (kindB n) = true) := hA
        clear hlo hA
        go_enter Tryz.func46, Tryz.ntmps46
        go_wp2_with fail
        rw [← hW]
        clear hW
        refine (areKindsS B n hn a cap z1 c1 st h1 W (SI.on HS.out (Keep.of hwW))).mono ?_
        rw [HA.out]
        rintro e w1 ⟨rfl, hb1⟩
        have hw1 : Below w.heap.size w w1 := below_over hwW hb1
        obtain ⟨q0, _⟩ := (P0.out.on hb1).g0
        obtain ⟨q1, _⟩ := (S0.out.on hb1).g1
        clear hb1
        go_wp2_with fail
        refine (areKindsS B n hn a cap z2 c2 lo h2 w1 (SI.on HO.out (Keep.of hw1))).mono ?_
        rintro e w2 ⟨rfl, hb2⟩
        go_wp2
        go_ret
        exact ⟨rfl, below_over hw1 hb2⟩
    · have hsi : ¬ (8 : Int) < (st.length : Int) := by omega
      have hli : ((lo.length : Int) != 8) = true := by simp; omega
      have HR : Hid (stateB n st lo = false) := by show _ = _; simp [stateB, hlo]
      rw [HR.out]
      clear hW
      go_enter Tryz.func46, Tryz.ntmps46
      go_wp2
      go_ret
      exact ⟨rfl, by go_grown⟩
  · have hsi : (8 : Int) < (st.length : Int) := by omega
    have HR : Hid (stateB n st lo = false) := by show _ = _; simp [stateB, hst]
    rw [HR.out]
    clear hW
    go_enter Tryz.func46, Tryz.ntmps46
    go_wp2
    go_ret
    exact ⟨rfl, by go_grown⟩
end Pg
end Go.Proofs.YtfdlljdljefkfaaGreatDoor

/- The contract of the program's Effect. -/
namespace Go.Proofs.YtfdlljdljefkfaaGreatDoor
namespace Pg
open Go.ChangeShapes Go.WideShapes Go.ChangeAt Go.RowKit St

def effectF (p : Prg) (t name : Int) (i : Tx.Ins) (s : Sta) : Option Sta := (methF p t name).bind fun m => if Tx.okT i && stateB p.length s.1 s.2 then effF p m.gives i s else none
theorem effect_no {p : Prg} {t name : Int} {i : Tx.Ins} {s : Sta} (h : methF p t name = none) : effectF p t name i s = none := by unfold effectF; rw [h]; rfl
theorem effect_of {p : Prg} {t name : Int} {i : Tx.Ins} {s : Sta} {m : Meth} (h : methF p t name = some m) (hb : (Tx.okT i && stateB p.length s.1 s.2) = true) : effectF p t name i s = effF p m.gives i s := by unfold effectF; rw [h]; simp [hb]
theorem effect_bad {p : Prg} {t name : Int} {i : Tx.Ins} {s : Sta} {m : Meth} (h : methF p t name = some m) (hb : (Tx.okT i && stateB p.length s.1 s.2) = false) : effectF p t name i s = none := by unfold effectF; rw [h]; simp [hb]
theorem gives_kind {p : Prg} {t name : Int} {m : Meth} (h : methF p t name = some m) : -3 ≤ m.gives := (kind_bd (ty_kind (okM_parts (meth_parts h).2.2).2.2.1)).1
/-- What the inner one answers. -/
def EinPost (o : Option Sta) (w : World) (e : Ending) (w' : World) : Prop :=
  ((∃ t sv lv, o = some t ∧ e = .returned (.tuple #[.agg #[sv, lv], .nilIface]) ∧ AnsS w.heap.size w' sv lv t) ∨
   (o = none ∧ ∃ str, e = .returned (.tuple #[.agg #[.slice none 0 0, .slice none 0 0], .iface 90 (.agg #[.string str])]))) ∧ Below w.heap.size w w'

set_option maxRecDepth 100000 in
set_option maxHeartbeats 4000000 in
theorem effectIn_at (B : Nat) (p : Prg) (a : Option Addr) (cap : Nat) (t name : Int) (hsp : SmallP p) (i : Tx.Ins) (z1 z2 : Option Addr) (c1 c2 : Nat) (st lo : List Int) (h1 : st.length ≤ 1048576) (h2 : lo.length ≤ 1048576) (w : World) (hp : SK front B w (.slice a p.length cap) p) (hs : SI true B w (.slice z1 st.length c1) st) (hl : SI true B w (.slice z2 lo.length c2) lo) :
    Calls Tryz.prog 24 #[.agg #[.slice a p.length cap], .int .i64 t, .int .i64 name, .agg #[.int .i64 i.1, .int .i64 i.2.1, .int .i64 i.2.2], .agg #[.slice z1 st.length c1, .slice z2 lo.length c2]] w fun e w' => EinPost (effectF p t name i (st, lo)) w e w' := by
  have HSP : Hid (SmallP p) := hsp
  have HP : Hid (SK front B w (.slice a p.length cap) p) := hp
  have HS : Hid (SI true B w (.slice z1 st.length c1) st) := hs
  have HL : Hid (SI true B w (.slice z2 lo.length c2) lo) := hl
  clear hp hsp hs hl
  obtain ⟨W, hW⟩ : ∃ W, W = (((w.alloc (.cells #[.slice a p.length cap] 37)).alloc (.cells #[.int .i64 i.1, .int .i64 i.2.1, .int .i64 i.2.2] 39)).alloc (.cells #[.slice z1 st.length c1, .slice z2 lo.length c2] 32)).alloc (.cells #[.slice none 0 0, .slice none 0 0] 32) := ⟨_, rfl⟩
  have hwW : Below w.heap.size w W := by rw [hW]; exact ((((Below.refl _ _).alloc (Nat.le_refl _) _).alloc (by simp) _).alloc (by simp; omega) _).alloc (by simp; omega) _
  have C0 : Hid (Cells W w.heap.size [.slice a p.length cap]) := by rw [hW]; exact (((Cells.new w _ rfl _ _).alloc _).alloc _).alloc _
  have C1 : Hid (Cells W (w.heap.size + 1) [.int .i64 i.1, .int .i64 i.2.1, .int .i64 i.2.2]) := by rw [hW]; exact ((Cells.new (w.alloc _) _ (by simp) _ _).alloc _).alloc _
  have C2 : Hid (Cells W (w.heap.size + 1 + 1) [.slice z1 st.length c1, .slice z2 lo.length c2]) := by rw [hW]; exact (Cells.new ((w.alloc _).alloc _) _ (by simp) _ _).alloc _
  have R0 : Hid (Cells W (w.heap.size + 1 + 1 + 1) [.slice none 0 0, .slice none 0 0]) := by rw [hW]; exact Cells.new (((w.alloc _).alloc _).alloc _) _ (by simp) _ _
  have HZ : Hid (W.heap.size = w.heap.size + 1 + 1 + 1 + 1) := by rw [hW]; show _ = _; simp
  have HNO : Hid (∀ u, Below W.heap.size W u → Below w.heap.size w ((u.setCell ⟨w.heap.size + 1 + 1 + 1, 0, none⟩ (.slice none 0 0)).setCell ⟨w.heap.size + 1 + 1 + 1, 1, none⟩ (.slice none 0 0)) ∧ Cells u (w.heap.size + 1 + 1 + 1) [.slice none 0 0, .slice none 0 0] ∧ Cells ((u.setCell ⟨w.heap.size + 1 + 1 + 1, 0, none⟩ (.slice none 0 0)).setCell ⟨w.heap.size + 1 + 1 + 1, 1, none⟩ (.slice none 0 0)) (w.heap.size + 1 + 1 + 1) [.slice none 0 0, .slice none 0 0]) := by
    show ∀ u, _
    intro u hu
    exact ⟨((below_over hwW hu).setCell (p := ⟨w.heap.size + 1 + 1 + 1, 0, none⟩) (by simp; omega) _).setCell (p := ⟨w.heap.size + 1 + 1 + 1, 1, none⟩) (by simp; omega) _, R0.out.on hu, ((R0.out.on hu).s0 _).s1 _⟩
  go_enter Tryz.func24, Tryz.ntmps24
  go_wp2_with fail
  rw [← hW]
  clear hW
  refine (checkerOf_at B p a cap t name HSP.out W (SK.on HP.out (Keep.of hwW))).mono ?_
  rintro e w1 ⟨⟨m, xa, ya, xc, yc, hm, hok, hin, hmem, rfl, hmv⟩ | ⟨hno, s, rfl⟩, hb1⟩
  · have HM : Hid (methF p t name = some m) := hm
    have HG : Hid (-3 ≤ m.gives) := gives_kind hm
    have HOKP : Hid (okP p = true) := hok
    have h6 : p.length ≤ 6 := (okP_len hok).2
    obtain ⟨V, hV⟩ : ∃ V, V = w1.alloc (.cells #[.slice a p.length cap, .int .i64 t, .int .i64 m.name, .slice xa m.args.length ya, .int .i64 m.gives, .slice xc m.code.length yc] 86) := ⟨_, rfl⟩
    have hbV : Below W.heap.size W V := by rw [hV]; exact hb1.alloc hb1.size _
    have CV : Hid (Cells V w1.heap.size [.slice a p.length cap, .int .i64 t, .int .i64 m.name, .slice xa m.args.length ya, .int .i64 m.gives, .slice xc m.code.length yc]) := by rw [hV]; exact Cells.new w1 _ rfl _ _
    have CI := C1.out.on hbV
    rw [hV] at CI
    obtain ⟨i0, _⟩ := CI.g0
    obtain ⟨i1, _⟩ := CI.g1
    obtain ⟨i2, _⟩ := CI.g2
    have hVe : Hid (V = w1.alloc (.cells #[.slice a p.length cap, .int .i64 t, .int .i64 m.name, .slice xa m.args.length ya, .int .i64 m.gives, .slice xc m.code.length yc] 86)) := hV
    clear hm hok hin hmem hmv hb1 hV CI
    go_wp2_with fail
    rw [← hVe.out]
    clear i0 i1 i2 hVe
    refine (implOk i.1 i.2.1 i.2.2 V).mono ?_
    rintro e w2 ⟨rfl, hb2⟩
    have hW2 : Below W.heap.size W w2 := below_over hbV hb2
    cases hio : Tx.okI i.1 i.2.1 i.2.2
    · have HE : Hid (effectF p t name i (st, lo) = none) := effect_bad HM.out (by show (Tx.okI i.1 i.2.1 i.2.2 && _) = false; rw [hio]; rfl)
      obtain ⟨hE1, hE2, hE3⟩ := HNO.out w2 hW2
      obtain ⟨r0, q0⟩ := hE2.g0
      obtain ⟨r1, q1⟩ := hE2.g1
      obtain ⟨e0, _⟩ := hE3.g0
      obtain ⟨e1, _⟩ := hE3.g1
      clear hE2 hE3 HNO hio
      go_wp2
      refine bodyPost_ret (v := .tuple #[.agg #[.slice none 0 0, .slice none 0 0], .iface 90 (.agg #[.string _])]) (by simp [results, Tryz.results24, go_sem, e0, e1]; rfl) rfl ?_
      exact ⟨.inr ⟨HE.out, _, rfl⟩, hE1⟩
    · obtain ⟨p0, _⟩ := (C0.out.on hW2).g0
      obtain ⟨t0, _⟩ := (C2.out.on hW2).g0
      obtain ⟨t1, _⟩ := (C2.out.on hW2).g1
      have HIO : Hid (Tx.okT i = true) := hio
      clear hio
      go_wp2_with fail
      refine (isState_at B p.length (by omega) a cap z1 z2 c1 c2 st lo h1 h2 w2 (SI.on HS.out (Keep.of (below_over hwW hW2))) (SI.on HL.out (Keep.of (below_over hwW hW2)))).mono ?_
      rintro e w3 ⟨rfl, hb3⟩
      have hW3 : Below W.heap.size W w3 := below_over hW2 hb3
      clear p0 t0 t1
      cases hst : stateB p.length st lo
      · have HE : Hid (effectF p t name i (st, lo) = none) := effect_bad HM.out (by rw [HIO.out]; exact hst)
        obtain ⟨hE1, hE2, hE3⟩ := HNO.out w3 hW3
        obtain ⟨r0, q0⟩ := hE2.g0
        obtain ⟨r1, q1⟩ := hE2.g1
        obtain ⟨e0, _⟩ := hE3.g0
        obtain ⟨e1, _⟩ := hE3.g1
        clear hE2 hE3 HNO hst
        go_wp2
        refine bodyPost_ret (v := .tuple #[.agg #[.slice none 0 0, .slice none 0 0], .iface 90 (.agg #[.string _])]) (by simp [results, Tryz.results24, go_sem, e0, e1]; rfl) rfl ?_
        exact ⟨.inr ⟨HE.out, _, rfl⟩, hE1⟩
      · have HE : Hid (effectF p t name i (st, lo) = effF p m.gives i (st, lo)) := effect_of HM.out (by rw [HIO.out]; exact hst)
        have HST : Hid (okSt p (st, lo)) := hst
        have CV3 := CV.out.on (below_over hb2 hb3)
        obtain ⟨v0, _⟩ := CV3.g0
        obtain ⟨v1, _⟩ := CV3.g1
        obtain ⟨v2, _⟩ := CV3.g2
        obtain ⟨v3, _⟩ := CV3.g3
        obtain ⟨v4, _⟩ := CV3.g4
        obtain ⟨v5, _⟩ := CV3.g5
        have CI3 := C1.out.on hW3
        obtain ⟨i0, _⟩ := CI3.g0
        obtain ⟨i1, _⟩ := CI3.g1
        obtain ⟨i2, _⟩ := CI3.g2
        obtain ⟨t0, _⟩ := (C2.out.on hW3).g0
        obtain ⟨t1, _⟩ := (C2.out.on hW3).g1
        clear hst CV3 CI3 hb2 hb3
        go_wp2_with fail
        refine (effect_at B p HOKP.out HSP.out w3 a cap (SK.on HP.out (Keep.of (below_over hwW hW3))) t m.name m.gives xa xc m.args.length ya m.code.length yc HG.out i HIO.out B z1 z2 c1 c2 st lo HST.out (SI.on HS.out (Keep.of (below_over hwW hW3))) (SI.on HL.out (Keep.of (below_over hwW hW3)))).mono ?_
        rintro e w4 ⟨⟨s', sv, lv, hef, rfl, hans⟩ | ⟨hef, str, rfl⟩, hb4⟩
        · have hW4 : Below W.heap.size W w4 := below_over hW3 hb4
          obtain ⟨x1, y1, x2, y2, rfl, rfl⟩ := hans.form
          have RA := R0.out.on hW4
          obtain ⟨r0, q0⟩ := RA.g0
          obtain ⟨r1, q1⟩ := RA.g1
          have R5 := (RA.s0 (.slice x1 s'.1.length y1)).s1 (.slice x2 s'.2.length y2)
          obtain ⟨e0, _⟩ := R5.g0
          obtain ⟨e1, _⟩ := R5.g1
          have HA : Hid (AnsS w.heap.size ((w4.setCell ⟨w.heap.size + 1 + 1 + 1, 0, none⟩ (.slice x1 s'.1.length y1)).setCell ⟨w.heap.size + 1 + 1 + 1, 1, none⟩ (.slice x2 s'.2.length y2)) (.slice x1 s'.1.length y1) (.slice x2 s'.2.length y2) s') := by
            have hz := HZ.out
            have hs := hW3.size
            exact (hans.keep (C := w3.heap.size) ((Keep.set w4 (p := ⟨w.heap.size + 1 + 1 + 1, 0, none⟩) (by show _ < _; simp; omega) _).trans (Keep.set _ (p := ⟨w.heap.size + 1 + 1 + 1, 1, none⟩) (by show _ < _; simp; omega) _)) (Nat.le_refl _)).base (by omega)
          have HB : Hid (Below w.heap.size w ((w4.setCell ⟨w.heap.size + 1 + 1 + 1, 0, none⟩ (.slice x1 s'.1.length y1)).setCell ⟨w.heap.size + 1 + 1 + 1, 1, none⟩ (.slice x2 s'.2.length y2))) := ((below_over hwW hW4).setCell (p := ⟨w.heap.size + 1 + 1 + 1, 0, none⟩) (by simp; omega) _).setCell (p := ⟨w.heap.size + 1 + 1 + 1, 1, none⟩) (by simp; omega) _
          clear RA R5 hans hb4 hW4 v0 v1 v2 v3 v4 v5 i0 i1 i2 t0 t1
          go_wp2
          refine bodyPost_ret (v := .tuple #[.agg #[.slice x1 s'.1.length y1, .slice x2 s'.2.length y2], .nilIface]) (by simp [results, Tryz.results24, go_sem, e0, e1]) rfl ?_
          exact ⟨.inl ⟨s', _, _, by rw [HE.out]; exact hef, rfl, HA.out⟩, HB.out⟩
        · have hW4 : Below W.heap.size W w4 := below_over hW3 hb4
          obtain ⟨hE1, hE2, hE3⟩ := HNO.out w4 hW4
          obtain ⟨r0, q0⟩ := hE2.g0
          obtain ⟨r1, q1⟩ := hE2.g1
          obtain ⟨e0, _⟩ := hE3.g0
          obtain ⟨e1, _⟩ := hE3.g1
          clear hE2 hE3 HNO hb4 hW4 v0 v1 v2 v3 v4 v5 i0 i1 i2 t0 t1
          go_wp2
          refine bodyPost_ret (v := .tuple #[.agg #[.slice none 0 0, .slice none 0 0], .iface 90 (.agg #[.string str])]) (by simp [results, Tryz.results24, go_sem, e0, e1]) rfl ?_
          exact ⟨.inr ⟨by rw [HE.out]; exact hef, str, rfl⟩, hE1⟩
  · have HE : Hid (effectF p t name i (st, lo) = none) := effect_no hno
    have hbV : Below W.heap.size W (w1.alloc (.cells #[.slice none 0 0, .int .i64 0, .int .i64 0, .slice none 0 0, .int .i64 0, .slice none 0 0] 86)) := hb1.alloc hb1.size _
    obtain ⟨hE1, hE2, hE3⟩ := HNO.out _ hbV
    obtain ⟨r0, q0⟩ := hE2.g0
    obtain ⟨r1, q1⟩ := hE2.g1
    obtain ⟨e0, _⟩ := hE3.g0
    obtain ⟨e1, _⟩ := hE3.g1
    clear hE2 hE3 HNO hno hb1 hbV
    go_wp2
    refine bodyPost_ret (v := .tuple #[.agg #[.slice none 0 0, .slice none 0 0], .iface 90 (.agg #[.string s])]) (by simp [results, Tryz.results24, go_sem, e0, e1]) rfl ?_
    exact ⟨.inr ⟨HE.out, s, rfl⟩, hE1⟩
end Pg
end Go.Proofs.YtfdlljdljefkfaaGreatDoor

/- The contract of the program's Effect: whole. -/
namespace Go.Proofs.YtfdlljdljefkfaaGreatDoor
namespace Pg
open Go.ChangeShapes Go.WideShapes Go.ChangeAt Go.RowKit St

set_option maxRecDepth 100000 in
set_option maxHeartbeats 4000000 in
theorem implEffect (B : Nat) (p : Prg) (a : Option Addr) (cap : Nat) (t name : Int) (hsp : SmallP p) (i : Tx.Ins) (z1 z2 : Option Addr) (c1 c2 : Nat) (st lo : List Int) (h1 : st.length ≤ 1048576) (h2 : lo.length ≤ 1048576) (w : World) (b : Addr) (hsn : Snt w b) (hp : SK front B w (.slice a p.length cap) p) (hs : SI true B w (.slice z1 st.length c1) st) (hl : SI true B w (.slice z2 lo.length c2) lo) :
    Calls Tryz.prog 10 #[.agg #[.slice a p.length cap], .int .i64 t, .int .i64 name, .agg #[.int .i64 i.1, .int .i64 i.2.1, .int .i64 i.2.2], .agg #[.slice z1 st.length c1, .slice z2 lo.length c2]] w fun e w' => StPost (effectF p t name i (st, lo)) w e w' := by
  have HSP : Hid (SmallP p) := hsp
  have HP : Hid (SK front B w (.slice a p.length cap) p) := hp
  have HS : Hid (SI true B w (.slice z1 st.length c1) st) := hs
  have HL : Hid (SI true B w (.slice z2 lo.length c2) lo) := hl
  have HSN : Hid (Snt w b) := hsn
  clear hp hsp hs hl hsn
  obtain ⟨W, hW⟩ : ∃ W, W = (((w.alloc (.cells #[.slice a p.length cap] 37)).alloc (.cells #[.int .i64 i.1, .int .i64 i.2.1, .int .i64 i.2.2] 39)).alloc (.cells #[.slice z1 st.length c1, .slice z2 lo.length c2] 32)).alloc (.cells #[.slice none 0 0, .slice none 0 0] 32) := ⟨_, rfl⟩
  have hwW : Below w.heap.size w W := by rw [hW]; exact ((((Below.refl _ _).alloc (Nat.le_refl _) _).alloc (by simp) _).alloc (by simp; omega) _).alloc (by simp; omega) _
  have R0 : Hid (Cells W (w.heap.size + 1 + 1 + 1) [.slice none 0 0, .slice none 0 0]) := by rw [hW]; exact Cells.new (((w.alloc _).alloc _).alloc _) _ (by simp) _ _
  have HZ : Hid (W.heap.size = w.heap.size + 1 + 1 + 1 + 1) := by rw [hW]; show _ = _; simp
  go_enter Tryz.func10, Tryz.ntmps10
  go_wp2_with fail
  rw [← hW]
  clear hW
  refine (effectIn_at B p a cap t name HSP.out i z1 z2 c1 c2 st lo h1 h2 W (SK.on HP.out (Keep.of hwW)) (SI.on HS.out (Keep.of hwW)) (SI.on HL.out (Keep.of hwW))).mono ?_
  rintro e w1 ⟨⟨s', sv, lv, hef, rfl, hans⟩ | ⟨hno, s, rfl⟩, hb1⟩
  · obtain ⟨x1, y1, x2, y2, rfl, rfl⟩ := hans.form
    have HEF : Hid (effectF p t name i (st, lo) = some s') := hef
    obtain ⟨V, hV⟩ : ∃ V, V = w1.alloc (.cells #[.slice x1 s'.1.length y1, .slice x2 s'.2.length y2] 32) := ⟨_, rfl⟩
    have hbV : Below W.heap.size W V := by rw [hV]; exact hb1.alloc hb1.size _
    have HAN : Hid (AnsS W.heap.size V (.slice x1 s'.1.length y1) (.slice x2 s'.2.length y2) s') := by rw [hV]; exact hans.on ((Below.refl _ _).alloc (Nat.le_refl _) _)
    have CV : Hid (Cells V w1.heap.size [.slice x1 s'.1.length y1, .slice x2 s'.2.length y2]) := by rw [hV]; exact Cells.new w1 _ rfl _ _
    have sn : Snt V b := ((below_over hwW hbV).cell (cell_lt HSN.out)).trans HSN.out
    rw [hV] at sn
    have hVe : Hid (V = w1.alloc (.cells #[.slice x1 s'.1.length y1, .slice x2 s'.2.length y2] 32)) := hV
    clear hef hans hb1 hV
    go_wp2_with fail
    rw [← hVe.out]
    refine (is_nil b V).mono ?_
    rintro e w2 ⟨rfl, rfl⟩
    obtain ⟨v0, _⟩ := CV.out.g0
    obtain ⟨v1, _⟩ := CV.out.g1
    have RA := R0.out.on hbV
    obtain ⟨r0, q0⟩ := RA.g0
    obtain ⟨r1, q1⟩ := RA.g1
    have R5 := (RA.s0 (.slice x1 s'.1.length y1)).s1 (.slice x2 s'.2.length y2)
    obtain ⟨e0, _⟩ := R5.g0
    obtain ⟨e1, _⟩ := R5.g1
    have HA : Hid (AnsS w.heap.size ((w2.setCell ⟨w.heap.size + 1 + 1 + 1, 0, none⟩ (.slice x1 s'.1.length y1)).setCell ⟨w.heap.size + 1 + 1 + 1, 1, none⟩ (.slice x2 s'.2.length y2)) (.slice x1 s'.1.length y1) (.slice x2 s'.2.length y2) s') := by
      have hz := HZ.out
      exact (HAN.out.keep (C := W.heap.size) ((Keep.set w2 (p := ⟨w.heap.size + 1 + 1 + 1, 0, none⟩) (by show _ < _; simp; omega) _).trans (Keep.set _ (p := ⟨w.heap.size + 1 + 1 + 1, 1, none⟩) (by show _ < _; simp; omega) _)) (Nat.le_refl _)).base (by omega)
    have HB : Hid (Below w.heap.size w ((w2.setCell ⟨w.heap.size + 1 + 1 + 1, 0, none⟩ (.slice x1 s'.1.length y1)).setCell ⟨w.heap.size + 1 + 1 + 1, 1, none⟩ (.slice x2 s'.2.length y2))) := ((below_over hwW hbV).setCell (p := ⟨w.heap.size + 1 + 1 + 1, 0, none⟩) (by simp; omega) _).setCell (p := ⟨w.heap.size + 1 + 1 + 1, 1, none⟩) (by simp; omega) _
    clear RA R5 hVe sn HAN CV
    go_wp2
    refine bodyPost_ret (v := .tuple #[.agg #[.slice x1 s'.1.length y1, .slice x2 s'.2.length y2], .bool true]) (by simp [results, Tryz.results10, go_sem, e0, e1]) rfl ?_
    exact ⟨.inl ⟨s', x1, y1, x2, y2, HEF.out, rfl, HA.out⟩, HB.out⟩
  · have HEN : Hid (effectF p t name i (st, lo) = none) := hno
    obtain ⟨V, hV⟩ : ∃ V, V = w1.alloc (.cells #[.slice none 0 0, .slice none 0 0] 32) := ⟨_, rfl⟩
    have hbV : Below W.heap.size W V := by rw [hV]; exact hb1.alloc hb1.size _
    have sn : Snt V b := ((below_over hwW hbV).cell (cell_lt HSN.out)).trans HSN.out
    have sn' := sn
    rw [hV] at sn
    have hVe : Hid (V = w1.alloc (.cells #[.slice none 0 0, .slice none 0 0] 32)) := hV
    clear hno hb1 hV
    go_wp2_with fail
    rw [← hVe.out]
    refine (is_refusal s b V sn').mono ?_
    rintro e w3 ⟨rfl, hb3⟩
    have hW3 : Below W.heap.size W w3 := below_over hbV hb3
    have RA := R0.out.on hW3
    obtain ⟨r0, q0⟩ := RA.g0
    obtain ⟨r1, q1⟩ := RA.g1
    have R5 := (RA.s0 (.slice none 0 0)).s1 (.slice none 0 0)
    obtain ⟨e0, _⟩ := R5.g0
    obtain ⟨e1, _⟩ := R5.g1
    have HB : Hid (Below w.heap.size w ((w3.setCell ⟨w.heap.size + 1 + 1 + 1, 0, none⟩ (.slice none 0 0)).setCell ⟨w.heap.size + 1 + 1 + 1, 1, none⟩ (.slice none 0 0))) := ((below_over hwW hW3).setCell (p := ⟨w.heap.size + 1 + 1 + 1, 0, none⟩) (by simp; omega) _).setCell (p := ⟨w.heap.size + 1 + 1 + 1, 1, none⟩) (by simp; omega) _
    clear RA R5 hb3 hW3 sn sn' hVe
    go_wp2
    refine bodyPost_ret (v := .tuple #[.agg #[.slice none 0 0, .slice none 0 0], .bool false]) (by simp [results, Tryz.results10, go_sem, e0, e1]) rfl ?_
    exact ⟨.inr ⟨HEN.out, rfl⟩, HB.out⟩
end Pg
end Go.Proofs.YtfdlljdljefkfaaGreatDoor
