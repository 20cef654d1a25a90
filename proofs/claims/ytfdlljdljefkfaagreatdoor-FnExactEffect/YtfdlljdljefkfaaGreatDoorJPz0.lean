/- The contract of the specification's Effect: whole. -/
import Derived.Test.YtfdlljdljefkfaaGreatDoorJKs2
import Derived.Test.YtfdlljdljefkfaaGreatDoorJEf1
import Derived.Test.YtfdlljdljefkfaaGreatDoorJPc3
import Derived.Test.YtfdlljdljefkfaaGreatDoorJGot0
import Derived.Test.YtfdlljdljefkfaaGreatDoorJLo0
namespace Go.Proofs.YtfdlljdljefkfaaGreatDoor
namespace Pg
open Go.ChangeShapes Go.WideShapes Go.ChangeAt Go.RowKit St

theorem own_ans {B : Nat} {w : World} {sv lv : Value} {s : Sta} (h : OwnS B w sv lv s) (h0 : 0 < s.2.length) : AnsS B w sv lv s := by
  obtain ⟨g, cap, hv, _⟩ := own_irow h.2.1 h0
  exact ⟨own_gz h.1, Grow.gint ⟨h.2.1, by rw [hv]; simp⟩, h.2.2⟩
set_option maxRecDepth 100000 in
set_option maxHeartbeats 4000000 in
theorem specEffect (B : Nat) (p : Prg) (a : Option Addr) (cap : Nat) (t name : Int) (hsp : SmallP p) (i : Tx.Ins) (z1 z2 : Option Addr) (c1 c2 : Nat) (st lo : List Int) (hc1 : st.length ≤ c1) (w : World) (hp : SK front B w (.slice a p.length cap) p) (hs : SI true B w (.slice z1 st.length c1) st) (hl : SI true B w (.slice z2 lo.length c2) lo) :
    Calls Tryz.prog 6 #[.agg #[.slice a p.length cap], .int .i64 t, .int .i64 name, .agg #[.int .i64 i.1, .int .i64 i.2.1, .int .i64 i.2.2], .agg #[.slice z1 st.length c1, .slice z2 lo.length c2]] w fun e w' => StPost (effectF p t name i (st, lo)) w e w' := by
  have HSP : Hid (SmallP p) := hsp
  have HP : Hid (SK front B w (.slice a p.length cap) p) := hp
  have HS : Hid (SI true B w (.slice z1 st.length c1) st) := hs
  have HL : Hid (SI true B w (.slice z2 lo.length c2) lo) := hl
  clear hp hsp hs hl
  obtain ⟨W, hW⟩ : ∃ W, W = (((w.alloc (.cells #[.slice a p.length cap] 37)).alloc (.cells #[.int .i64 i.1, .int .i64 i.2.1, .int .i64 i.2.2] 39)).alloc (.cells #[.slice z1 st.length c1, .slice z2 lo.length c2] 32)).alloc (.cells #[.slice none 0 0, .slice none 0 0] 32) := ⟨_, rfl⟩
  have hwW : Below w.heap.size w W := by rw [hW]; exact ((((Below.refl _ _).alloc (Nat.le_refl _) _).alloc (by simp) _).alloc (by simp; omega) _).alloc (by simp; omega) _
  have C0 : Hid (Cells W w.heap.size [.slice a p.length cap]) := by rw [hW]; exact (((Cells.new w _ rfl _ _).alloc _).alloc _).alloc _
  have C1 : Hid (Cells W (w.heap.size + 1) [.int .i64 i.1, .int .i64 i.2.1, .int .i64 i.2.2]) := by rw [hW]; exact ((Cells.new (w.alloc _) _ (by simp) _ _).alloc _).alloc _
  have C2 : Hid (Cells W (w.heap.size + 1 + 1) [.slice z1 st.length c1, .slice z2 lo.length c2]) := by rw [hW]; exact (Cells.new ((w.alloc _).alloc _) _ (by simp) _ _).alloc _
  have R0 : Hid (Cells W (w.heap.size + 1 + 1 + 1) [.slice none 0 0, .slice none 0 0]) := by rw [hW]; exact Cells.new (((w.alloc _).alloc _).alloc _) _ (by simp) _ _
  have HZ : Hid (W.heap.size = w.heap.size + 1 + 1 + 1 + 1) := by rw [hW]; show _ = _; simp
  go_enter Tryz.func6, Tryz.ntmps6
  go_wp2_with fail
  rw [← hW]
  clear hW
  refine (specMethodOf B p a cap t name HSP.out W (SK.on HP.out (Keep.of hwW))).mono ?_
  rintro e w1 ⟨⟨m, xa, ya, xc, yc, hm, rfl, hans⟩ | ⟨hno, rfl⟩, hb1⟩
  · have hmp := meth_parts hm
    have hkg := kind_bd (ty_kind (okM_parts hmp.2.2).2.2.1)
    have HM : Hid (methF p t name = some m) := hm
    have HOKP : Hid (okP p = true) := hmp.1
    have h6 : p.length ≤ 6 := (okP_len hmp.1).2
    have HG : Hid (-3 ≤ m.gives ∧ m.gives < (p.length : Int)) := hkg
    have hbV : Below W.heap.size W (w1.alloc (.cells #[.int .i64 m.name, .slice xa m.args.length ya, .int .i64 m.gives, .slice xc m.code.length yc] 51)) := hb1.alloc hb1.size _
    have CV : Hid (Cells (w1.alloc (.cells #[.int .i64 m.name, .slice xa m.args.length ya, .int .i64 m.gives, .slice xc m.code.length yc] 51)) w1.heap.size [.int .i64 m.name, .slice xa m.args.length ya, .int .i64 m.gives, .slice xc m.code.length yc]) := Cells.new w1 _ rfl _ _
    obtain ⟨i0, _⟩ := (C1.out.on hbV).g0
    obtain ⟨i1, _⟩ := (C1.out.on hbV).g1
    obtain ⟨i2, _⟩ := (C1.out.on hbV).g2
    clear hmp hm hans hkg hb1
    go_wp2_with fail
    refine (specOk i.1 i.2.1 i.2.2 (w1.alloc (.cells #[.int .i64 m.name, .slice xa m.args.length ya, .int .i64 m.gives, .slice xc m.code.length yc] 51))).mono ?_
    rintro e w2 ⟨rfl, hb2⟩
    have hW2 : Below W.heap.size W w2 := below_over hbV hb2
    clear i0 i1 i2
    cases hok : Tx.okI i.1 i.2.1 i.2.2
    · have HEN : Hid (effectF p t name i (st, lo) = none) := effect_bad HM.out (by simp [Tx.okT, hok])
      have RA := R0.out.on hW2
      obtain ⟨r0, q0⟩ := RA.g0
      obtain ⟨r1, q1⟩ := RA.g1
      have R5 := (RA.s0 (.slice none 0 0)).s1 (.slice none 0 0)
      obtain ⟨e0, _⟩ := R5.g0
      obtain ⟨e1, _⟩ := R5.g1
      have HB : Hid (Below w.heap.size w ((w2.setCell ⟨w.heap.size + 1 + 1 + 1, 0, none⟩ (.slice none 0 0)).setCell ⟨w.heap.size + 1 + 1 + 1, 1, none⟩ (.slice none 0 0))) := ((below_over hwW hW2).setCell (p := ⟨w.heap.size + 1 + 1 + 1, 0, none⟩) (by simp; omega) _).setCell (p := ⟨w.heap.size + 1 + 1 + 1, 1, none⟩) (by simp; omega) _
      clear RA R5 hb2
      go_wp2
      refine bodyPost_ret (v := .tuple #[.agg #[.slice none 0 0, .slice none 0 0], .bool false]) (by simp [results, Tryz.results6, go_sem, e0, e1]) rfl ?_
      exact ⟨.inr ⟨HEN.out, rfl⟩, HB.out⟩
    · have CV2 : Hid (Cells w2 w1.heap.size [.int .i64 m.name, .slice xa m.args.length ya, .int .i64 m.gives, .slice xc m.code.length yc]) := CV.out.on hb2
      obtain ⟨p0, _⟩ := (C0.out.on hW2).g0
      obtain ⟨s0, _⟩ := (C2.out.on hW2).g0
      obtain ⟨s1, _⟩ := (C2.out.on hW2).g1
      have HOI : Hid (Tx.okT i = true) := hok
      clear hb2 CV
      go_wp2_with fail
      refine (l6State B p.length (by omega) a cap z1 z2 c1 c2 st lo w2 (SI.on HS.out (Keep.of (below_over hwW hW2))) (SI.on HL.out (Keep.of (below_over hwW hW2)))).mono ?_
      rintro e w3 ⟨rfl, hb3⟩
      have hW3 : Below W.heap.size W w3 := below_over hW2 hb3
      clear p0 s0 s1
      cases hst : stateB p.length st lo
      · have HEN : Hid (effectF p t name i (st, lo) = none) := effect_bad HM.out (by simp [hst])
        have RA := R0.out.on hW3
        obtain ⟨r0, q0⟩ := RA.g0
        obtain ⟨r1, q1⟩ := RA.g1
        have R5 := (RA.s0 (.slice none 0 0)).s1 (.slice none 0 0)
        obtain ⟨e0, _⟩ := R5.g0
        obtain ⟨e1, _⟩ := R5.g1
        have HB : Hid (Below w.heap.size w ((w3.setCell ⟨w.heap.size + 1 + 1 + 1, 0, none⟩ (.slice none 0 0)).setCell ⟨w.heap.size + 1 + 1 + 1, 1, none⟩ (.slice none 0 0))) := ((below_over hwW hW3).setCell (p := ⟨w.heap.size + 1 + 1 + 1, 0, none⟩) (by simp; omega) _).setCell (p := ⟨w.heap.size + 1 + 1 + 1, 1, none⟩) (by simp; omega) _
        clear RA R5 hb3
        go_wp2
        refine bodyPost_ret (v := .tuple #[.agg #[.slice none 0 0, .slice none 0 0], .bool false]) (by simp [results, Tryz.results6, go_sem, e0, e1]) rfl ?_
        exact ⟨.inr ⟨HEN.out, rfl⟩, HB.out⟩
      · have CV3 : Hid (Cells w3 w1.heap.size [.int .i64 m.name, .slice xa m.args.length ya, .int .i64 m.gives, .slice xc m.code.length yc]) := CV2.out.on hb3
        have HOS : Hid (okSt p (st, lo)) := hst
        have HEF : Hid (effectF p t name i (st, lo) = effF p m.gives i (st, lo)) := effect_of HM.out (by rw [HOI.out]; exact hst)
        obtain ⟨g2, _⟩ := CV3.out.g2
        obtain ⟨p0, _⟩ := (C0.out.on hW3).g0
        obtain ⟨s0, _⟩ := (C2.out.on hW3).g0
        obtain ⟨s1, _⟩ := (C2.out.on hW3).g1
        obtain ⟨i0, _⟩ := (C1.out.on hW3).g0
        obtain ⟨i1, _⟩ := (C1.out.on hW3).g1
        obtain ⟨i2, _⟩ := (C1.out.on hW3).g2
        clear hb3 CV2 CV3
        go_wp2_with fail
        refine (l7Effect_at B p HOKP.out HSP.out w3 a cap (SK.on HP.out (Keep.of (below_over hwW hW3))) i HOI.out m.gives HG.out.1 HG.out.2 z1 z2 c1 c2 st lo HOS.out hc1 (SI.on HS.out (Keep.of (below_over hwW hW3))) (SI.on HL.out (Keep.of (below_over hwW hW3)))).mono ?_
        rw [← HEF.out]
        clear g2 p0 s0 s1 i0 i1 i2
        rintro e w4 ⟨⟨t', x1, y1, x2, y2, ho, rfl, hown⟩ | ⟨ho, x1, n1, y1, x2, n2, y2, rfl⟩, hb4⟩
        · have HO : Hid (effectF p t name i (st, lo) = some t') := ho
          have h8 : 0 < t'.2.length := by
            have h := (okSt_iff.1 (eff_ok HOKP.out m.gives HOI.out HOS.out (HEF.out.symm.trans ho))).2.1
            omega
          have hb5 : Below w4.heap.size w4 (w4.alloc (.cells #[.slice x1 t'.1.length y1, .slice x2 t'.2.length y2] 32)) := (Below.refl _ _).alloc (Nat.le_refl _) _
          have hW5 : Below W.heap.size W (w4.alloc (.cells #[.slice x1 t'.1.length y1, .slice x2 t'.2.length y2] 32)) := below_over (below_over hW3 hb4) hb5
          have CN : Cells (w4.alloc (.cells #[.slice x1 t'.1.length y1, .slice x2 t'.2.length y2] 32)) w4.heap.size [.slice x1 t'.1.length y1, .slice x2 t'.2.length y2] := Cells.new w4 _ rfl _ _
          obtain ⟨n0, _⟩ := CN.g0
          obtain ⟨n1, _⟩ := CN.g1
          have hz3 : W.heap.size ≤ w3.heap.size := hW3.size
          have RA := R0.out.on hW5
          obtain ⟨r0, q0⟩ := RA.g0
          obtain ⟨r1, q1⟩ := RA.g1
          have R5 := (RA.s0 (.slice x1 t'.1.length y1)).s1 (.slice x2 t'.2.length y2)
          obtain ⟨e0, _⟩ := R5.g0
          obtain ⟨e1, _⟩ := R5.g1
          have hown5 : OwnS w3.heap.size (w4.alloc (.cells #[.slice x1 t'.1.length y1, .slice x2 t'.2.length y2] 32)) (.slice x1 t'.1.length y1) (.slice x2 t'.2.length y2) t' := ⟨ownOn hown.1 hb5, ownOn hown.2.1 hb5, hown.2.2⟩
          have HA : Hid (AnsS w.heap.size (((w4.alloc (.cells #[.slice x1 t'.1.length y1, .slice x2 t'.2.length y2] 32)).setCell ⟨w.heap.size + 1 + 1 + 1, 0, none⟩ (.slice x1 t'.1.length y1)).setCell ⟨w.heap.size + 1 + 1 + 1, 1, none⟩ (.slice x2 t'.2.length y2)) (.slice x1 t'.1.length y1) (.slice x2 t'.2.length y2) t') := own_ans (own_cell2 hown5 (by have := HZ.out; omega) (by have := HZ.out; omega)) h8
          have HB : Hid (Below w.heap.size w (((w4.alloc (.cells #[.slice x1 t'.1.length y1, .slice x2 t'.2.length y2] 32)).setCell ⟨w.heap.size + 1 + 1 + 1, 0, none⟩ (.slice x1 t'.1.length y1)).setCell ⟨w.heap.size + 1 + 1 + 1, 1, none⟩ (.slice x2 t'.2.length y2))) := ((below_over hwW hW5).setCell (p := ⟨w.heap.size + 1 + 1 + 1, 0, none⟩) (by simp; omega) _).setCell (p := ⟨w.heap.size + 1 + 1 + 1, 1, none⟩) (by simp; omega) _
          clear RA R5 hown hown5 hb4 hb5 ho CN
          go_wp2
          refine bodyPost_ret (v := .tuple #[.agg #[.slice x1 t'.1.length y1, .slice x2 t'.2.length y2], .bool true]) (by simp [results, Tryz.results6, go_sem, e0, e1]) rfl ?_
          exact ⟨.inl ⟨t', x1, y1, x2, y2, HO.out, rfl, HA.out⟩, HB.out⟩
        · have hW5 : Below W.heap.size W (w4.alloc (.cells #[.slice x1 n1 y1, .slice x2 n2 y2] 32)) := below_over (below_over hW3 hb4) ((Below.refl _ _).alloc (Nat.le_refl _) _)
          have HEN : Hid (effectF p t name i (st, lo) = none) := ho
          have RA := R0.out.on hW5
          obtain ⟨r0, q0⟩ := RA.g0
          obtain ⟨r1, q1⟩ := RA.g1
          have R5 := (RA.s0 (.slice none 0 0)).s1 (.slice none 0 0)
          obtain ⟨e0, _⟩ := R5.g0
          obtain ⟨e1, _⟩ := R5.g1
          have HB : Hid (Below w.heap.size w (((w4.alloc (.cells #[.slice x1 n1 y1, .slice x2 n2 y2] 32)).setCell ⟨w.heap.size + 1 + 1 + 1, 0, none⟩ (.slice none 0 0)).setCell ⟨w.heap.size + 1 + 1 + 1, 1, none⟩ (.slice none 0 0))) := ((below_over hwW hW5).setCell (p := ⟨w.heap.size + 1 + 1 + 1, 0, none⟩) (by simp; omega) _).setCell (p := ⟨w.heap.size + 1 + 1 + 1, 1, none⟩) (by simp; omega) _
          clear RA R5 hb4 ho
          go_wp2
          refine bodyPost_ret (v := .tuple #[.agg #[.slice none 0 0, .slice none 0 0], .bool false]) (by simp [results, Tryz.results6, go_sem, e0, e1]) rfl ?_
          exact ⟨.inr ⟨HEN.out, rfl⟩, HB.out⟩
  · have hbV : Below W.heap.size W (w1.alloc (.cells #[.int .i64 0, .slice none 0 0, .int .i64 0, .slice none 0 0] 51)) := hb1.alloc hb1.size _
    have HEN : Hid (effectF p t name i (st, lo) = none) := effect_no hno
    have RA := R0.out.on hbV
    obtain ⟨r0, q0⟩ := RA.g0
    obtain ⟨r1, q1⟩ := RA.g1
    have R5 := (RA.s0 (.slice none 0 0)).s1 (.slice none 0 0)
    obtain ⟨e0, _⟩ := R5.g0
    obtain ⟨e1, _⟩ := R5.g1
    have HB : Hid (Below w.heap.size w (((w1.alloc (.cells #[.int .i64 0, .slice none 0 0, .int .i64 0, .slice none 0 0] 51)).setCell ⟨w.heap.size + 1 + 1 + 1, 0, none⟩ (.slice none 0 0)).setCell ⟨w.heap.size + 1 + 1 + 1, 1, none⟩ (.slice none 0 0))) := ((below_over hwW hbV).setCell (p := ⟨w.heap.size + 1 + 1 + 1, 0, none⟩) (by simp; omega) _).setCell (p := ⟨w.heap.size + 1 + 1 + 1, 1, none⟩) (by simp; omega) _
    clear RA R5 hb1 hno
    go_wp2
    refine bodyPost_ret (v := .tuple #[.agg #[.slice none 0 0, .slice none 0 0], .bool false]) (by simp [results, Tryz.results6, go_sem, e0, e1]) rfl ?_
    exact ⟨.inr ⟨HEN.out, rfl⟩, HB.out⟩
end Pg
end Go.Proofs.YtfdlljdljefkfaaGreatDoor

/- Contracts of the laws' own marking of programs: what it leaves alone. -/
namespace Go.Proofs.YtfdlljdljefkfaaGreatDoor
namespace Pg
open Go.ChangeShapes Go.WideShapes Go.ChangeAt Go.RowKit St

/-- From u to v numbers alone have turned, in blocks from B1 on and below B2. -/
structure Mrk (B1 B2 : Nat) (u v : World) : Prop where
  os : v.os = u.os
  tape : v.tape = u.tape
  output : v.output = u.output
  size : u.heap.size ≤ v.heap.size
  far : ∀ k, k < u.heap.size → (k < B1 ∨ B2 ≤ k) → v.heap[k]? = u.heap[k]?
  cell : ∀ p : Addr, p.block < u.heap.size → v.cell? p = u.cell? p ∨ ((∃ x, u.cell? p = some (.int .i64 x)) ∧ ∃ y, v.cell? p = some (.int .i64 y))
  frz : ∀ p : Addr, p.block < u.heap.size → v.frozen? p = u.frozen? p
theorem Mrk.refl (B1 B2 : Nat) (u : World) : Mrk B1 B2 u u := ⟨rfl, rfl, rfl, Nat.le_refl _, fun _ _ _ => rfl, fun _ _ => .inl rfl, fun _ _ => rfl⟩
theorem Mrk.trans {B1 B2 : Nat} {u v w : World} (h : Mrk B1 B2 u v) (k : Mrk B1 B2 v w) : Mrk B1 B2 u w :=
  ⟨k.os.trans h.os, k.tape.trans h.tape, k.output.trans h.output, Nat.le_trans h.size k.size, fun i hi hf => (k.far i (Nat.lt_of_lt_of_le hi h.size) hf).trans (h.far i hi hf), fun p hp => by
    have hp' := Nat.lt_of_lt_of_le hp h.size
    rcases h.cell p hp with h1 | ⟨h1, y, h2⟩
    · rcases k.cell p hp' with k1 | ⟨⟨x, k1⟩, k2⟩
      · exact .inl (k1.trans h1)
      · exact .inr ⟨⟨x, h1 ▸ k1⟩, k2⟩
    · rcases k.cell p hp' with k1 | ⟨_, k2⟩
      · exact .inr ⟨h1, y, k1.trans h2⟩
      · exact .inr ⟨h1, k2⟩, fun p hp => (k.frz p (Nat.lt_of_lt_of_le hp h.size)).trans (h.frz p hp)⟩
theorem Mrk.set {B1 B2 : Nat} (u : World) {p : Addr} (h1 : B1 ≤ p.block) (h2 : p.block < B2) {x : Int} (hx : u.cell? p = some (.int .i64 x)) (y : Int) : Mrk B1 B2 u (u.setCell p (.int .i64 y)) := by
  have hb := (Below.refl 0 u).setCell (p := p) (Nat.zero_le _) (.int .i64 y)
  refine ⟨hb.os, hb.tape, hb.output, hb.size, fun k _ hf => Below.heap_setCell u p _ k (by omega), fun q hq => ?_, fun q _ => by simp⟩
  by_cases e : p = q
  · subst e
    exact .inr ⟨⟨x, hx⟩, y, World.cell?_setCell_same _ _ _ hx⟩
  · exact .inl (World.cell?_setCell_other _ _ _ _ e)
theorem Mrk.of {B1 B2 : Nat} {u v : World} (h : Below u.heap.size u v) : Mrk B1 B2 u v :=
  ⟨h.os, h.tape, h.output, h.size, fun k hk _ => h.block k hk, fun _ hp => .inl (h.cell hp), fun _ hp => h.frozen hp⟩
theorem Mrk.below {B1 B2 B : Nat} {u v : World} (h : Mrk B1 B2 u v) (hB : B ≤ B1) (hu : B ≤ u.heap.size) : Below B u v :=
  ⟨h.os, h.tape, h.output, h.size, fun k hk => h.far k (by omega) (.inl (by omega))⟩
theorem Mrk.keep {B1 B2 : Nat} {u v : World} (h : Mrk B1 B2 u v) : Keep B2 u v := ⟨h.size, fun k hk hl => h.far k hl (.inr hk)⟩
theorem Mrk.slice {B1 B2 : Nat} {u v : World} (h : Mrk B1 B2 u v) {p : Addr} {a : Option Addr} {n c : Nat} (hp : u.cell? p = some (.slice a n c)) : v.cell? p = some (.slice a n c) := by
  rcases h.cell p (cell_lt hp) with h1 | ⟨⟨x, h1⟩, _⟩
  · exact h1.trans hp
  · rw [hp] at h1; simp at h1
theorem Mrk.int {B1 B2 : Nat} {u v : World} (h : Mrk B1 B2 u v) {p : Addr} {x : Int} (hp : u.cell? p = some (.int .i64 x)) : ∃ y, v.cell? p = some (.int .i64 y) := by
  rcases h.cell p (cell_lt hp) with h1 | ⟨_, h2⟩
  · exact ⟨x, h1.trans hp⟩
  · exact h2
/-- A number that may be written. -/
def NumW (w : World) (p : Addr) : Prop := (∃ x, w.cell? p = some (.int .i64 x)) ∧ w.frozen? p = false
theorem NumW.mrk {B1 B2 : Nat} {u v : World} {p : Addr} (h : NumW u p) (hm : Mrk B1 B2 u v) : NumW v p := by
  obtain ⟨⟨x, hx⟩, hf⟩ := h
  exact ⟨hm.int hx, (hm.frz p (cell_lt hx)).trans hf⟩
/-- A slice of n elements, each of sz numbers that may be written, in blocks from B1 on and below B2. -/
def ShN (sz B1 B2 : Nat) (w : World) (v : Value) (n : Nat) : Prop :=
  ∃ a cap, v = .slice a n cap ∧ (0 < n → ∃ b o, a = some ⟨b, o, none⟩ ∧ B1 ≤ b ∧ b < B2 ∧ ∀ j, j < n * sz → NumW w ⟨b, o + j, none⟩)
theorem ShN.mrk {sz B1 B2 : Nat} {u v : World} {x : Value} {n : Nat} (h : ShN sz B1 B2 u x n) (hm : Mrk B1 B2 u v) : ShN sz B1 B2 v x n := by
  obtain ⟨a, cap, hv, h⟩ := h
  refine ⟨a, cap, hv, fun h0 => ?_⟩
  obtain ⟨b, o, ha, h1, h2, h3⟩ := h h0
  exact ⟨b, o, ha, h1, h2, fun j hj => (h3 j hj).mrk hm⟩
theorem ShN.form {sz B1 B2 : Nat} {u : World} {x : Value} {n : Nat} (h : ShN sz B1 B2 u x n) : ∃ a cap, x = .slice a n cap := by
  obtain ⟨a, cap, hv, _⟩ := h
  exact ⟨a, cap, hv⟩
def ShMat (B1 B2 : Nat) (w : World) (b o : Nat) (m : Meth) : Prop :=
  ∃ va vc, NumW w ⟨b, o, none⟩ ∧ w.cell? ⟨b, o + 1, none⟩ = some va ∧ NumW w ⟨b, o + 2, none⟩ ∧ w.cell? ⟨b, o + 3, none⟩ = some vc ∧ ShN 1 B1 B2 w va m.args.length ∧ ShN 3 B1 B2 w vc m.code.length
theorem ShMat.mrk {B1 B2 : Nat} {u v : World} {b o : Nat} {m : Meth} (h : ShMat B1 B2 u b o m) (hm : Mrk B1 B2 u v) : ShMat B1 B2 v b o m := by
  obtain ⟨va, vc, h0, h1, h2, h3, h4, h5⟩ := h
  obtain ⟨a1, c1, rfl⟩ := h4.form
  obtain ⟨a2, c2, rfl⟩ := h5.form
  exact ⟨_, _, h0.mrk hm, hm.slice h1, h2.mrk hm, hm.slice h3, h4.mrk hm, h5.mrk hm⟩
def ShM (B1 B2 : Nat) (w : World) (v : Value) (l : List Meth) : Prop :=
  ∃ a cap, v = .slice a l.length cap ∧ (0 < l.length → ∃ b o, a = some ⟨b, o, none⟩ ∧ B1 ≤ b ∧ b < B2 ∧ ∀ j x, l[j]? = some x → ShMat B1 B2 w b (o + j * 4) x)
theorem ShM.mrk {B1 B2 : Nat} {u v : World} {x : Value} {l : List Meth} (h : ShM B1 B2 u x l) (hm : Mrk B1 B2 u v) : ShM B1 B2 v x l := by
  obtain ⟨a, cap, hv, h⟩ := h
  refine ⟨a, cap, hv, fun h0 => ?_⟩
  obtain ⟨b, o, ha, h1, h2, h3⟩ := h h0
  exact ⟨b, o, ha, h1, h2, fun j y hj => (h3 j y hj).mrk hm⟩
theorem ShM.form {B1 B2 : Nat} {u : World} {x : Value} {l : List Meth} (h : ShM B1 B2 u x l) : ∃ a cap, x = .slice a l.length cap := by
  obtain ⟨a, cap, hv, _⟩ := h
  exact ⟨a, cap, hv⟩
def ShKat (B1 B2 : Nat) (w : World) (b o : Nat) (c : Cls) : Prop :=
  ∃ vf vm, NumW w ⟨b, o, none⟩ ∧ w.cell? ⟨b, o + 1, none⟩ = some vf ∧ w.cell? ⟨b, o + 2, none⟩ = some vm ∧ ShN 1 B1 B2 w vf c.fields.length ∧ ShM B1 B2 w vm c.meths
theorem ShKat.mrk {B1 B2 : Nat} {u v : World} {b o : Nat} {c : Cls} (h : ShKat B1 B2 u b o c) (hm : Mrk B1 B2 u v) : ShKat B1 B2 v b o c := by
  obtain ⟨va, vc, h0, h1, h3, h4, h5⟩ := h
  obtain ⟨a1, c1, rfl⟩ := h4.form
  obtain ⟨a2, c2, rfl⟩ := h5.form
  exact ⟨_, _, h0.mrk hm, hm.slice h1, hm.slice h3, h4.mrk hm, h5.mrk hm⟩
def ShK (B1 B2 : Nat) (w : World) (v : Value) (l : Prg) : Prop :=
  ∃ a cap, v = .slice a l.length cap ∧ (0 < l.length → ∃ b o, a = some ⟨b, o, none⟩ ∧ B1 ≤ b ∧ b < B2 ∧ ∀ j x, l[j]? = some x → ShKat B1 B2 w b (o + j * 3) x)
theorem ShK.mrk {B1 B2 : Nat} {u v : World} {x : Value} {l : Prg} (h : ShK B1 B2 u x l) (hm : Mrk B1 B2 u v) : ShK B1 B2 v x l := by
  obtain ⟨a, cap, hv, h⟩ := h
  refine ⟨a, cap, hv, fun h0 => ?_⟩
  obtain ⟨b, o, ha, h1, h2, h3⟩ := h h0
  exact ⟨b, o, ha, h1, h2, fun j y hj => (h3 j y hj).mrk hm⟩

/-- The shape of a fresh program. -/
theorem shI_of {B : Nat} {w : World} {v : Value} {l : List Int} (h : SI true B w v l) : ShN 1 B w.heap.size w v l.length := by
  obtain ⟨a, cap, hv, _, h⟩ := h
  refine ⟨a, cap, hv, fun h0 => ?_⟩
  obtain ⟨b, o, ha, hB, ⟨hl, hf⟩, hx⟩ := h h0
  refine ⟨b, o, ha, hB, hl, fun j hj => ?_⟩
  have hj' : j < l.length := by omega
  have := hx j _ (List.getElem?_eq_getElem hj')
  rw [Nat.mul_one] at this
  exact ⟨⟨_, this⟩, hf rfl j hj⟩
theorem row_num {w : World} {g n : Nat} {l : List Tx.Ins} (hn : n = l.length) (h : Row w g 0 l) (hr : Room w g (l.length * 3)) : ∀ j, j < n * 3 → NumW w ⟨g, 0 + j, none⟩ := by
  intro j hj
  have hq : j / 3 < l.length := by omega
  obtain ⟨c0, c1, c2⟩ := h (j / 3) _ (List.getElem?_eq_getElem hq)
  refine ⟨?_, by rw [Nat.zero_add]; exact (hr j (by omega)).2⟩
  have hm : j % 3 = 0 ∨ j % 3 = 1 ∨ j % 3 = 2 := by omega
  rcases hm with hm | hm | hm
  · have e : 0 + j / 3 * 3 = 0 + j := by omega
    rw [e] at c0; exact ⟨_, c0⟩
  · have e : 0 + j / 3 * 3 + 1 = 0 + j := by omega
    rw [e] at c1; exact ⟨_, c1⟩
  · have e : 0 + j / 3 * 3 + 2 = 0 + j := by omega
    rw [e] at c2; exact ⟨_, c2⟩
theorem shC_of {B : Nat} {w : World} {v : Value} {l : List Tx.Ins} (h : CS B w v l) : ShN 3 B w.heap.size w v l.length := by
  obtain ⟨g, cap, hv, h1, h2, h3, h4⟩ := h
  exact ⟨_, cap, hv, fun _ => ⟨g, 0, rfl, h1, h2, row_num rfl h3 h4⟩⟩
theorem shM_of {B : Nat} {w : World} {v : Value} {l : List Meth} (h : SM front B w v l) : ShM B w.heap.size w v l := by
  obtain ⟨a, cap, hv, _, h⟩ := h
  refine ⟨a, cap, hv, fun h0 => ?_⟩
  obtain ⟨b, o, ha, hB, ⟨hl, hf⟩, hx⟩ := h h0
  refine ⟨b, o, ha, hB, hl, fun j x hj => ?_⟩
  have hjl : j < l.length := (List.getElem?_eq_some_iff.1 hj).1
  have f0 := hf rfl (j * 4) (by omega)
  have f2 := hf rfl (j * 4 + 2) (by omega)
  obtain ⟨va, vc, c0, c1, c2, c3, hv1, hv2⟩ := hx j x hj
  exact ⟨va, vc, ⟨⟨_, c0⟩, f0⟩, c1, ⟨⟨_, c2⟩, by rw [Nat.add_assoc]; exact f2⟩, c3, shI_of hv1, shC_of hv2⟩
theorem shK_of {B : Nat} {w : World} {v : Value} {l : Prg} (h : SK front B w v l) : ShK B w.heap.size w v l := by
  obtain ⟨a, cap, hv, _, h⟩ := h
  refine ⟨a, cap, hv, fun h0 => ?_⟩
  obtain ⟨b, o, ha, hB, ⟨hl, hf⟩, hx⟩ := h h0
  refine ⟨b, o, ha, hB, hl, fun j x hj => ?_⟩
  have hjl : j < l.length := (List.getElem?_eq_some_iff.1 hj).1
  have f0 := hf rfl (j * 3) (by omega)
  obtain ⟨va, vc, c0, c1, c2, hv1, hv2⟩ := hx j x hj
  exact ⟨va, vc, ⟨⟨_, c0⟩, f0⟩, c1, c2, shI_of hv1, shM_of hv2⟩

/-- How many numbers are marked. -/
def cntM (m : Meth) : Nat := 2 + m.args.length + 3 * m.code.length
def cntMs (ms : List Meth) : Nat := sumN (ms.map cntM)
def cntC (c : Cls) : Nat := 1 + c.fields.length + cntMs c.meths
def cntP (p : Prg) : Nat := sumN (p.map cntC)
theorem sumN_lin {α : Type} {f g : α → Nat} (l : List α) (h : ∀ x ∈ l, f x ≤ 3 + 3 * g x) : sumN (l.map f) ≤ 3 * (l.length + sumN (l.map g)) := by
  induction l with
  | nil => simp [sumN]
  | cons x l ih =>
    have h1 := h x (by simp)
    have h2 := ih (fun y hy => h y (by simp [hy]))
    simp only [sumN, List.map_cons, List.foldr_cons, List.length_cons] at h2 ⊢
    omega
theorem cntMs_le (ms : List Meth) : cntMs ms ≤ 3 * szMs ms := sumN_lin ms (fun m _ => by unfold cntM szM; omega)
theorem cntP_le (p : Prg) : cntP p ≤ 3 * szP p := sumN_lin p (fun c _ => by have := cntMs_le c.meths; unfold cntC szC; omega)

set_option maxRecDepth 100000 in
set_option maxHeartbeats 1000000 in
theorem markInts' (B1 B2 : Nat) (a : Option Addr) (cap m n : Nat) (hm : m + n ≤ 4000000) (w : World) (hs : ShN 1 B1 B2 w (.slice a n cap) n) :
    Calls Tryz.prog 29 #[.slice a n cap, .int .i64 m] w fun e w' => e = .returned (.int .i64 ((m + n : Nat) : Int)) ∧ Mrk B1 B2 w w' := by
  have HS : Hid (ShN 1 B1 B2 w (.slice a n cap) n) := hs
  clear hs
  go_enter Tryz.func29, Tryz.ntmps29
  go_wp2
  go_loopw [1, 5] (fun q i wr => ∃ k : Nat, k ≤ n ∧ i = .int .i64 k ∧ q = .int .i64 ((m : Int) + (k : Int)) ∧ Hid (Mrk B1 B2 w wr)) (fun _ i _ => n - (intOf i).toNat)
  case atStart => exact ⟨0, Nat.zero_le _, rfl, by simp, Mrk.refl _ _ _⟩
  case round =>
    obtain ⟨k, hk, rfl, rfl, hon⟩ := hrel
    by_cases hlt : k < n
    · have hki : (k : Int) < (n : Int) := by omega
      obtain ⟨a', c', he, hx⟩ := HS.out.mrk hon.out
      injection he with e1 e2 e3
      subst e1
      obtain ⟨b, o, rfl, h1, h2, h3⟩ := hx (by omega)
      obtain ⟨⟨x0, d0⟩, f0⟩ := h3 k (by omega)
      have HNX : Hid (Mrk B1 B2 w (wr.setCell ⟨b, o + k, none⟩ (.int .i64 ((m : Int) + (k : Int))))) := hon.out.trans (Mrk.set wr (p := ⟨b, o + k, none⟩) h1 h2 d0 _)
      clear hx h3
      go_wp2
      go_roundw
      case rel => exact ⟨k + 1, by omega, by go_num, by go_num, HNX.out⟩
      case measure => simp [intOf]; omega
    · have HKN : Hid (k = n) := by show k = n; omega
      go_wp2
      go_ret
      exact ⟨by rw [← HKN.out]; push_cast; rfl, hon.out⟩

set_option maxRecDepth 100000 in
set_option maxHeartbeats 1000000 in
theorem markInsns' (B1 B2 : Nat) (a : Option Addr) (cap m n : Nat) (hm : m + 3 * n ≤ 4000000) (w : World) (hs : ShN 3 B1 B2 w (.slice a n cap) n) :
    Calls Tryz.prog 66 #[.slice a n cap, .int .i64 m] w fun e w' => e = .returned (.int .i64 ((m + 3 * n : Nat) : Int)) ∧ Mrk B1 B2 w w' := by
  have HS : Hid (ShN 3 B1 B2 w (.slice a n cap) n) := hs
  clear hs
  go_enter Tryz.func66, Tryz.ntmps66
  go_wp2
  go_loopw [1, 5] (fun q i wr => ∃ k : Nat, k ≤ n ∧ i = .int .i64 k ∧ q = .int .i64 ((m : Int) + 3 * (k : Int)) ∧ Hid (Mrk B1 B2 w wr)) (fun _ i _ => n - (intOf i).toNat)
  case atStart => exact ⟨0, Nat.zero_le _, rfl, by simp, Mrk.refl _ _ _⟩
  case round =>
    obtain ⟨k, hk, rfl, rfl, hon⟩ := hrel
    by_cases hlt : k < n
    · have hki : (k : Int) < (n : Int) := by omega
      obtain ⟨a', c', he, hx⟩ := HS.out.mrk hon.out
      injection he with e1 e2 e3
      subst e1
      obtain ⟨b, o, rfl, h1, h2, h3⟩ := hx (by omega)
      obtain ⟨⟨x0, d0⟩, f0⟩ := h3 (k * 3) (by omega)
      obtain ⟨⟨x1, d1⟩, f1⟩ := h3 (k * 3 + 1) (by omega)
      obtain ⟨⟨x2, d2⟩, f2⟩ := h3 (k * 3 + 2) (by omega)
      rw [← Nat.add_assoc] at d1 f1 d2 f2
      have M1 := Mrk.set (B1 := B1) (B2 := B2) wr (p := ⟨b, o + k * 3, none⟩) h1 h2 d0 ((m : Int) + 3 * (k : Int))
      obtain ⟨y1, e1⟩ := M1.int d1
      obtain ⟨y2, e2⟩ := M1.int d2
      have M2 := Mrk.set (B1 := B1) (B2 := B2) _ (p := ⟨b, o + k * 3 + 1, none⟩) h1 h2 e1 ((m : Int) + 3 * (k : Int) + 1)
      obtain ⟨y3, e3⟩ := M2.int e2
      have M3 := Mrk.set (B1 := B1) (B2 := B2) _ (p := ⟨b, o + k * 3 + 2, none⟩) h1 h2 e3 ((m : Int) + 3 * (k : Int) + 1 + 1)
      have HNX : Hid (Mrk B1 B2 w (((wr.setCell ⟨b, o + k * 3, none⟩ (.int .i64 ((m : Int) + 3 * (k : Int)))).setCell ⟨b, o + k * 3 + 1, none⟩ (.int .i64 ((m : Int) + 3 * (k : Int) + 1))).setCell ⟨b, o + k * 3 + 2, none⟩ (.int .i64 ((m : Int) + 3 * (k : Int) + 1 + 1)))) := hon.out.trans ((M1.trans M2).trans M3)
      clear hx h3 M1 M2 M3
      go_wp2
      go_roundw
      case rel => exact ⟨k + 1, by omega, by go_num, by go_num, HNX.out⟩
      case measure => simp [intOf]; omega
    · have HKN : Hid (k = n) := by show k = n; omega
      go_wp2
      go_ret
      exact ⟨by rw [← HKN.out]; push_cast; rfl, hon.out⟩
end Pg
end Go.Proofs.YtfdlljdljefkfaaGreatDoor

/- What stays of rows that a call made; the laws' own marking and holding of rows of numbers that may be nil. -/
namespace Go.Proofs.YtfdlljdljefkfaaGreatDoor
namespace Pg
open Go.ChangeShapes Go.WideShapes Go.ChangeAt Go.RowKit St

theorem GZ.mrk {C1 C2 B1 B2 : Nat} {u w : World} {v : Value} {l : List Int} (h : GZ B1 B2 u v l) (hm : Mrk C1 C2 u w) (hd : B2 ≤ C1 ∨ C2 ≤ B1) : GZ B1 B2 w v l := h.moved hm.size fun k h1 h2 hl => hm.far k hl (by omega)
theorem CZ.mrk {C1 C2 B1 B2 : Nat} {u w : World} {v : Value} {l : List Tx.Ins} (h : CZ B1 B2 u v l) (hm : Mrk C1 C2 u w) (hd : B2 ≤ C1 ∨ C2 ≤ B1) : CZ B1 B2 w v l := h.moved hm.size fun k h1 h2 hl => hm.far k hl (by omega)
theorem GZ.only {g B1 B2 : Nat} {u w : World} {v : Value} {l : List Int} (h : GZ B1 B2 u v l) (ho : Only g u w) (hd : g < B1 ∨ B2 ≤ g) : GZ B1 B2 w v l := h.moved (by rw [ho.size]; exact Nat.le_refl _) fun k h1 h2 _ => ho.block k (by omega)
theorem CZ.only {g B1 B2 : Nat} {u w : World} {v : Value} {l : List Tx.Ins} (h : CZ B1 B2 u v l) (ho : Only g u w) (hd : g < B1 ∨ B2 ≤ g) : CZ B1 B2 w v l := h.moved (by rw [ho.size]; exact Nat.le_refl _) fun k h1 h2 _ => ho.block k (by omega)

theorem Cells.keep {D : Nat} {u w : World} {k : Nat} {vs : List Value} (h : Cells u k vs) (hk : Keep D u w) (hD : D ≤ k) : Cells w k vs := fun i x hx => by
  obtain ⟨h1, h2⟩ := h i x hx
  have l := cell_lt h1
  exact ⟨(hk.cell (p := ⟨k, i, none⟩) hD l).trans h1, (hk.frozen (p := ⟨k, i, none⟩) hD l).trans h2⟩
theorem Cells.mrk {C1 C2 : Nat} {u w : World} {k : Nat} {vs : List Value} (h : Cells u k vs) (hm : Mrk C1 C2 u w) (hd : k < C1 ∨ C2 ≤ k) : Cells w k vs := fun i x hx => by
  obtain ⟨h1, h2⟩ := h i x hx
  have l := cell_lt h1
  have hb := hm.far k l hd
  exact ⟨(World.cell?_of_block (w := u) hb).trans h1, (World.frozen?_of_block (w := u) hb).trans h2⟩
theorem below_less {B C : Nat} {u w : World} (h : Below B u w) (hC : C ≤ B) : Below C u w := ⟨h.os, h.tape, h.output, h.size, fun k hk => h.block k (by omega)⟩

/-- The marks m, m + 1 .. of n steps. -/
def marksM (m n : Nat) : List Tx.Ins := (List.range n).map fun (j : Nat) => (((m : Int) + 3 * (j : Int), (m : Int) + 3 * (j : Int) + 1, (m : Int) + 3 * (j : Int) + 1 + 1) : Tx.Ins)
theorem marksM_len (m n : Nat) : (marksM m n).length = n := by simp [marksM]
theorem marksM_at {m n k : Nat} (h : k < n) : (marksM m n)[k]? = some ((m : Int) + 3 * (k : Int), (m : Int) + 3 * (k : Int) + 1, (m : Int) + 3 * (k : Int) + 1 + 1) := by simp [marksM, h]
set_option maxHeartbeats 400000 in
theorem heldI_nil (m : Nat) (w : World) : Calls Tryz.prog 30 #[.slice none 0 0, .int .i64 m] w fun e w' => e = .returned (.int .i64 (m : Int)) ∧ w = w' := by
  go_enter Tryz.func30, Tryz.ntmps30
  go_wp2
  go_loop [1, 5] (fun q i => i = .int .i64 0 ∧ q = .int .i64 (m : Int)) (fun _ _ => 0)
  case atStart => exact ⟨rfl, rfl⟩
  case round =>
    obtain ⟨rfl, rfl⟩ := hrel
    go_wp2
    go_ret
    exact ⟨rfl, rfl⟩
/-- The marks in a method that a call has made. -/
theorem markIntsZ (B M m : Nat) (a : Option Addr) (c : Nat) (l : List Int) (hl : l.length ≤ 1048576) (hm : m + l.length ≤ 4000000) (w : World) (hB : B ≤ w.heap.size) (h : GZ B M w (.slice a l.length c) l) :
    Calls Tryz.prog 29 #[.slice a l.length c, .int .i64 m] w fun e w' => e = .returned (.int .i64 ((m + l.length : Nat) : Int)) ∧ GZ B M w' (.slice a l.length c) (imarks m l.length) ∧ Below B w w' ∧ Keep M w w' := by
  rcases h with ⟨g, d, hv, h1, h2, h3, h4, h5⟩ | ⟨hv, rfl⟩
  · rw [hv]
    refine (imark_at g d m l.length (by omega) hl w h5).mono ?_
    rintro e w' ⟨rfl, k1, k2, k3⟩
    refine ⟨by push_cast; rfl, .inl ⟨g, d, by rw [imarks_len], h1, h2, by rw [k3.size]; exact h3, k1, by rw [imarks_len]; exact k2⟩, k3.below h1, ⟨by rw [k3.size]; exact Nat.le_refl _, fun k hk _ => k3.block k (by omega)⟩⟩
  · rw [hv]
    have hs : ShN 1 w.heap.size w.heap.size w (.slice none 0 0) 0 := ⟨_, _, rfl, fun h => absurd h (by omega)⟩
    refine (markInts' w.heap.size w.heap.size none 0 m 0 (by omega) w hs).mono ?_
    rintro e w' ⟨rfl, hk⟩
    have hb : Below w.heap.size w w' := hk.below (Nat.le_refl _) (Nat.le_refl _)
    exact ⟨rfl, .inr ⟨rfl, rfl⟩, ⟨hb.os, hb.tape, hb.output, hb.size, fun k hk' => hb.block k (by omega)⟩, Keep.of hb⟩

theorem heldIntsZ (B M m n : Nat) (a : Option Addr) (c : Nat) (hn : n ≤ 1048576) (hm : m ≤ 4000000) (w : World) (h : GZ B M w (.slice a n c) (imarks m n)) :
    Calls Tryz.prog 30 #[.slice a n c, .int .i64 m] w fun e w' => e = .returned (.int .i64 ((m + n : Nat) : Int)) ∧ w = w' := by
  rcases h with ⟨g, d, hv, h1, h2, h3, h4, h5⟩ | ⟨hv, hl⟩
  · rw [imarks_len] at hv
    rw [hv]
    refine (iheld_at g d m n hm hn w h4).mono ?_
    rintro e w' ⟨rfl, rfl⟩
    exact ⟨by push_cast; rfl, rfl⟩
  · have hn0 : n = 0 := by have := imarks_len m n; rw [hl] at this; simpa using this.symm
    subst hn0
    rw [hv]
    exact heldI_nil m w
end Pg
end Go.Proofs.YtfdlljdljefkfaaGreatDoor
