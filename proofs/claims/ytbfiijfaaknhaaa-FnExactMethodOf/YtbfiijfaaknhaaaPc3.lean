/- The contract of the other side's MethodOf. -/
import Derived.Test.YtbfiijfaaknhaaaPcm
import Derived.Test.YtbfiijfaaknhaaaPc2
namespace Go.Proofs.Ytbfiijfaaknhaaa
namespace Pg
open Go.ChangeShapes Go.WideShapes Go.ChangeAt Go.RowKit St

set_option maxRecDepth 100000 in
set_option maxHeartbeats 4000000 in
theorem specMethodOf (B : Nat) (p : Prg) (a : Option Addr) (cap : Nat) (t name : Int) (hsp : SmallP p) (w : World) (hp : SK front B w (.slice a p.length cap) p) :
    Calls Try.prog 8 #[.agg #[.slice a p.length cap], .int .i64 t, .int .i64 name] w fun e w' => MPost p t name w e w' := by
  have HSP : Hid (SmallP p) := hsp
  have HP : Hid (SK front B w (.slice a p.length cap) p) := hp
  clear hp hsp
  obtain ⟨W, hW⟩ : ∃ W, W = (w.alloc (.cells #[.slice a p.length cap] 34)).alloc (.cells #[.int .i64 0, .slice none 0 0, .int .i64 0, .slice none 0 0] 29) := ⟨_, rfl⟩
  have hwW : Below w.heap.size w W := by rw [hW]; exact ((Below.refl _ _).alloc (Nat.le_refl _) _).alloc (by simp) _
  have P0 : Hid (Cells W w.heap.size [.slice a p.length cap]) := by rw [hW]; exact (Cells.new w _ rfl _ _).alloc _
  have R0 : Hid (Cells W (w.heap.size + 1) [.int .i64 0, .slice none 0 0, .int .i64 0, .slice none 0 0]) := by rw [hW]; exact Cells.new (w.alloc _) _ (by simp) _ _
  have HZ : Hid (∀ u, Below W.heap.size W u → methF p t name = none → MPost p t name w (.returned (.tuple #[.agg #[.int .i64 0, .slice none 0 0, .int .i64 0, .slice none 0 0], .bool false])) ((((u.setCell ⟨w.heap.size + 1, 0, none⟩ (.int .i64 0)).setCell ⟨w.heap.size + 1, 1, none⟩ (.slice none 0 0)).setCell ⟨w.heap.size + 1, 2, none⟩ (.int .i64 0)).setCell ⟨w.heap.size + 1, 3, none⟩ (.slice none 0 0))) := fun u hu hn =>
    ⟨.inr ⟨hn, rfl⟩, ((((below_over hwW hu).setCell (p := ⟨w.heap.size + 1, 0, none⟩) (by simp) _).setCell (p := ⟨w.heap.size + 1, 1, none⟩) (by simp) _).setCell (p := ⟨w.heap.size + 1, 2, none⟩) (by simp) _).setCell (p := ⟨w.heap.size + 1, 3, none⟩) (by simp) _⟩
  go_enter Try.func8, Try.ntmps8
  go_wp2_with fail
  rw [← hW]
  clear hW
  refine (l4In B p a cap t HSP.out _ (SK.on HP.out (Keep.of hwW))).mono ?_
  rintro e w2 ⟨rfl, hb1⟩
  have hW2 : Below W.heap.size W w2 := hb1
  clear hb1
  cases hok : (okP p && inB p t)
  · have HN : Hid (methF p t name = none) := methF_no hok
    clear hok
    have RA := R0.out.on hW2
    obtain ⟨r0, q0⟩ := RA.g0
    obtain ⟨r1, q1⟩ := RA.g1
    obtain ⟨r2, q2⟩ := RA.g2
    obtain ⟨r3, q3⟩ := RA.g3
    have R5 := (((RA.s0 (.int .i64 0)).s1 (.slice none 0 0)).s2 (.int .i64 0)).s3 (.slice none 0 0)
    obtain ⟨e0, _⟩ := R5.g0
    obtain ⟨e1, _⟩ := R5.g1
    obtain ⟨e2, _⟩ := R5.g2
    obtain ⟨e3, _⟩ := R5.g3
    clear R5 RA
    go_wp2
    refine bodyPost_ret (v := .tuple #[.agg #[.int .i64 0, .slice none 0 0, .int .i64 0, .slice none 0 0], .bool false]) (by simp [results, Try.results8, go_sem, e0, e1, e2, e3]) rfl ?_
    exact HZ.out _ hW2 HN.out
  · simp only [Bool.and_eq_true, inB, decide_eq_true_eq] at hok
    obtain ⟨hk, h0, h1⟩ := hok
    obtain ⟨u, rfl⟩ := Int.eq_ofNat_of_zero_le h0
    have hup : u < p.length := by omega
    have hw2 : Below w.heap.size w w2 := below_over hwW hW2
    obtain ⟨b, o, rfl, _, vf, vm, d0, d1, d2, hcv⟩ := HP.out.get hup
    obtain ⟨z1, t1, rfl⟩ := hcv.1.form
    obtain ⟨z2, t2, rfl⟩ := hcv.2.form
    have l0 : b < w.heap.size := cell_lt d0
    have c0 := (hw2.cell l0).trans d0
    have c1 := (hw2.cell l0).trans d1
    have c2 := (hw2.cell l0).trans d2
    have HM : Hid (SM front B w (.slice z2 p[u].meths.length t2) p[u].meths) := hcv.2
    have hsc := HSP.out.2 _ (List.getElem_mem hup)
    have HSMM : Hid (∀ m ∈ p[u].meths, SmallM m) := hsc.2.2
    have hsl := hsc.2.1
    have HMF : Hid (methF p (u : Int) name = ownF p[u] name) := methF_at hk hup (List.getElem?_eq_getElem hup)
    generalize p[u] = c at *
    obtain ⟨pp, _⟩ := (P0.out.on hW2).g0
    have D2 : Hid (w.cell? ⟨b, o + u * 3 + 2, none⟩ = some (.slice z2 c.meths.length t2)) := by first | exact d2 | simpa [Nat.add_assoc] using d2
    clear hcv hsc d0 d1 d2 hk
    go_wp2_with fail
    refine (l4Own B c z1 z2 t2 c.fields.length t1 name hsl _ (SM.on HM.out (Keep.of hw2))).mono ?_
    rintro e w3 ⟨rfl, hb3⟩
    have hW3 : Below W.heap.size W w3 := below_over hW2 hb3
    have hw3 : Below w.heap.size w w3 := below_over hwW hW3
    obtain ⟨pp, _⟩ := (P0.out.on hW3).g0
    have c2 := (hb3.cell (cell_lt c2)).trans c2
    clear hb3 c0 c1 hW2 hw2
    rcases ownI_cases c name with ⟨hI, hF⟩ | ⟨kk, m, hkk, hx, hI, hF⟩
    · have HN : Hid (methF p (u : Int) name = none) := by show _ = _; rw [HMF.out]; exact hF
      rw [hI]
      clear hI hF
      have RA := R0.out.on hW3
      obtain ⟨r0, q0⟩ := RA.g0
      obtain ⟨r1, q1⟩ := RA.g1
      obtain ⟨r2, q2⟩ := RA.g2
      obtain ⟨r3, q3⟩ := RA.g3
      have R5 := (((RA.s0 (.int .i64 0)).s1 (.slice none 0 0)).s2 (.int .i64 0)).s3 (.slice none 0 0)
      obtain ⟨e0, _⟩ := R5.g0
      obtain ⟨e1, _⟩ := R5.g1
      obtain ⟨e2, _⟩ := R5.g2
      obtain ⟨e3, _⟩ := R5.g3
      clear R5 RA
      go_wp2
      refine bodyPost_ret (v := .tuple #[.agg #[.int .i64 0, .slice none 0 0, .int .i64 0, .slice none 0 0], .bool false]) (by simp [results, Try.results8, go_sem, e0, e1, e2, e3]) rfl ?_
      exact HZ.out _ hW3 HN.out
    · have HMS : Hid (methF p (u : Int) name = some m) := by show _ = _; rw [HMF.out]; exact hF
      have hkki : (kk : Int) < (c.meths.length : Int) := by omega
      have hkk0 : (0 : Int) ≤ (kk : Int) := by omega
      obtain ⟨bx, ox, rfl, _, wa, wc, g0, g1, g2, g3, hxv⟩ := HM.out.get hkk
      obtain ⟨x3, y3, rfl⟩ := hxv.1.form
      have exx : c.meths[kk] = m := by
        rw [List.getElem?_eq_getElem hkk] at hx
        simpa using hx
      rw [exx] at g0 g1 g2 hxv
      obtain ⟨gc, y4, rfl⟩ := front.form hxv.2
      have lx : bx < w.heap.size := cell_lt g1
      have g0' := (hw3.cell lx).trans g0
      have g1' := (hw3.cell lx).trans g1
      have g2' := (hw3.cell lx).trans g2
      have g3' := (hw3.cell lx).trans g3
      have HXV : Hid (MV front B w (.slice x3 m.args.length y3) (.slice gc m.code.length y4) m) := hxv
      have HSM : Hid (SmallM m) := HSMM.out m (List.mem_of_getElem? hx)
      rw [hI]
      clear hI hF exx hxv hx g0 g1 g2 g3 HZ
      go_wp2_with fail
      refine (l4Copy B m _ _ HSM.out _ (MV.on HXV.out (Keep.of hw3))).mono ?_
      rintro e w5 ⟨a4, c4, a5, c5, rfl, hmv, hb5, _⟩
      have RX := (R0.out.on hW3).on hb5
      obtain ⟨r0, q0⟩ := RX.g0
      obtain ⟨r1, q1⟩ := RX.g1
      obtain ⟨r2, q2⟩ := RX.g2
      obtain ⟨r3, q3⟩ := RX.g3
      have R5 := (((RX.s0 (.int .i64 m.name)).s1 (.slice a4 m.args.length c4)).s2 (.int .i64 m.gives)).s3 (.slice a5 m.code.length c5)
      obtain ⟨e0, _⟩ := R5.g0
      obtain ⟨e1, _⟩ := R5.g1
      obtain ⟨e2, _⟩ := R5.g2
      obtain ⟨e3, _⟩ := R5.g3
      have hsW : w.heap.size + 2 ≤ w3.heap.size := by
        have h1 := cell_lt (R0.out.g0).1
        have h2 := hW3.size
        simp at h1
        omega
      have hk : ∀ (x : World) (i : Nat) (v : Value), Keep (w.heap.size + 2) x (x.setCell ⟨w.heap.size + 1, i, none⟩ v) := fun x i v => Keep.set x (p := ⟨w.heap.size + 1, i, none⟩) (by simp) v
      have hkk' := (((hk w5 0 (.int .i64 m.name)).trans (hk _ 1 (.slice a4 m.args.length c4))).trans (hk _ 2 (.int .i64 m.gives))).trans (hk _ 3 (.slice a5 m.code.length c5))
      have HMVF : Hid (AnsM w.heap.size ((((w5.setCell ⟨w.heap.size + 1, 0, none⟩ (.int .i64 m.name)).setCell ⟨w.heap.size + 1, 1, none⟩ (.slice a4 m.args.length c4)).setCell ⟨w.heap.size + 1, 2, none⟩ (.int .i64 m.gives)).setCell ⟨w.heap.size + 1, 3, none⟩ (.slice a5 m.code.length c5)) (.slice a4 m.args.length c4) (.slice a5 m.code.length c5) m) :=
        (hmv.keep hkk' hsW).weak (by omega)
      have hw5 : Below w.heap.size w w5 := below_over hw3 hb5
      have HBF : Hid (Below w.heap.size w ((((w5.setCell ⟨w.heap.size + 1, 0, none⟩ (.int .i64 m.name)).setCell ⟨w.heap.size + 1, 1, none⟩ (.slice a4 m.args.length c4)).setCell ⟨w.heap.size + 1, 2, none⟩ (.int .i64 m.gives)).setCell ⟨w.heap.size + 1, 3, none⟩ (.slice a5 m.code.length c5))) := (((hw5.setCell (p := ⟨w.heap.size + 1, 0, none⟩) (by simp) _).setCell (p := ⟨w.heap.size + 1, 1, none⟩) (by simp) _).setCell (p := ⟨w.heap.size + 1, 2, none⟩) (by simp) _).setCell (p := ⟨w.heap.size + 1, 3, none⟩) (by simp) _
      clear hkk' hk hmv hb5 R5 RX hw5 pp c2 g0' g1' g2' g3'
      go_wp2
      refine bodyPost_ret (v := .tuple #[.agg #[.int .i64 m.name, .slice a4 m.args.length c4, .int .i64 m.gives, .slice a5 m.code.length c5], .bool true]) (by simp [results, Try.results8, go_sem, e0, e1, e2, e3]) rfl ?_
      exact ⟨.inl ⟨m, a4, c4, a5, c5, HMS.out, rfl, HMVF.out⟩, HBF.out⟩
end Pg
end Go.Proofs.Ytbfiijfaaknhaaa
