/- Contracts of both sides' MethodOf. -/
import Derived.Test.YtbgbddahniacbaaGreatDoorJPcm
import Derived.Deep.Cut
import Derived.Deep.RegionHeld3
import Derived.Test.YtbgbddahniacbaaGreatDoorJDq0
namespace Go.Proofs.YtbgbddahniacbaaGreatDoor
namespace Pg
open Go.ChangeShapes Go.WideShapes Go.ChangeAt Go.RowKit St

/-- What holds while the method is copied: the answer's own variable may be written, the method's lies as it was. -/
def OwnAt (w : World) (k : Nat) (c0 c1 c2 c3 : Value) (x : World) : Prop := Below w.heap.size w x ∧ (∃ v0 v1 v2 v3, Cells x (w.heap.size + 1) [v0, v1, v2, v3]) ∧ Cells x k [c0, c1, c2, c3]
theorem OwnAt.all {w x : World} {k : Nat} {c0 c1 c2 c3 : Value} (h : OwnAt w k c0 c1 c2 c3 x) : OwnAt w k c0 c1 c2 c3 x ∧ x.cell? ⟨k, 0, none⟩ = some c0 ∧ x.cell? ⟨k, 1, none⟩ = some c1 ∧ x.cell? ⟨k, 2, none⟩ = some c2 ∧ x.cell? ⟨k, 3, none⟩ = some c3 :=
  ⟨h, h.2.2.g0.1, h.2.2.g1.1, h.2.2.g2.1, h.2.2.g3.1⟩
theorem OwnAt.drew {w x : World} {k : Nat} {c0 c1 c2 c3 : Value} (h : OwnAt w k c0 c1 c2 c3 x) : OwnAt w k c0 c1 c2 c3 x.drew :=
  have hd : Below x.heap.size x x.drew := (Below.refl _ _).drew
  ⟨h.1.drew, h.2.1.elim fun v0 h => h.elim fun v1 h => h.elim fun v2 h => h.elim fun v3 h => ⟨v0, v1, v2, v3, h.on hd⟩, h.2.2.on hd⟩
theorem OwnAt.on {w x x' : World} {k : Nat} {c0 c1 c2 c3 : Value} {R : Prop} (hb : Below x.heap.size x x') (hh : OwnAt w k c0 c1 c2 c3 x ∧ R) : OwnAt w k c0 c1 c2 c3 x' :=
  have h := hh.1
  ⟨below_over h.1 hb, h.2.1.elim fun v0 h => h.elim fun v1 h => h.elim fun v2 h => h.elim fun v3 h => ⟨v0, v1, v2, v3, h.on hb⟩, h.2.2.on hb⟩
theorem OwnAt.below {w x : World} {k : Nat} {c0 c1 c2 c3 : Value} {R : Prop} (h : OwnAt w k c0 c1 c2 c3 x ∧ R) : Below w.heap.size w x := h.1.1
theorem OwnAt.set {w x : World} {k : Nat} {c0 c1 c2 c3 n0 n1 n2 n3 : Value} {R : Prop} (hk : k ≠ w.heap.size + 1) (hh : OwnAt w k c0 c1 c2 c3 x ∧ R) : OwnAt w k c0 c1 c2 c3 ((((x.setCell ⟨w.heap.size + 1, 0, none⟩ n0).setCell ⟨w.heap.size + 1, 1, none⟩ n1).setCell ⟨w.heap.size + 1, 2, none⟩ n2).setCell ⟨w.heap.size + 1, 3, none⟩ n3) :=
  have h := hh.1
  ⟨(((h.1.setCell (p := ⟨w.heap.size + 1, 0, none⟩) (by simp) _).setCell (p := ⟨w.heap.size + 1, 1, none⟩) (by simp) _).setCell (p := ⟨w.heap.size + 1, 2, none⟩) (by simp) _).setCell (p := ⟨w.heap.size + 1, 3, none⟩) (by simp) _,
   h.2.1.elim fun v0 h => h.elim fun v1 h => h.elim fun v2 h => h.elim fun v3 h => ⟨n0, n1, n2, n3, (((h.s0 n0).s1 n1).s2 n2).s3 n3⟩,
   (((h.2.2.far ⟨w.heap.size + 1, 0, none⟩ n0 (Ne.symm hk)).far ⟨w.heap.size + 1, 1, none⟩ n1 (Ne.symm hk)).far ⟨w.heap.size + 1, 2, none⟩ n2 (Ne.symm hk)).far ⟨w.heap.size + 1, 3, none⟩ n3 (Ne.symm hk)⟩

set_option maxRecDepth 100000 in
set_option maxHeartbeats 4000000 in
/-- A method that is copied: its rows in blocks of their own. -/
theorem copiedMethod (B : Nat) (m : Meth) (f1 f2 : Option Addr) (g1 g2 : Nat) (hms : SmallM m) (w : World) (hx : MV front B w (.slice f1 m.args.length g1) (.slice f2 m.code.length g2) m) :
    Calls Tryz.prog 26 #[.agg #[.int .i64 m.name, .slice f1 m.args.length g1, .int .i64 m.gives, .slice f2 m.code.length g2]] w fun e w' => ∃ x1 y1 x2 y2, e = .returned (.agg #[.int .i64 m.name, .slice x1 m.args.length y1, .int .i64 m.gives, .slice x2 m.code.length y2]) ∧ AnsM w.heap.size w' (.slice x1 m.args.length y1) (.slice x2 m.code.length y2) m ∧ Below w.heap.size w w' ∧ CS w.heap.size w' (.slice x2 m.code.length y2) m.code := by
  have hms1 := hms.1
  have hms2 := hms.2
  have HXV : Hid (MV front B w (.slice f1 m.args.length g1) (.slice f2 m.code.length g2) m) := hx
  obtain ⟨V, hV⟩ : ∃ V, V = (w.alloc (.cells #[.int .i64 m.name, .slice f1 m.args.length g1, .int .i64 m.gives, .slice f2 m.code.length g2] 35)).alloc (.cells #[.int .i64 0, .slice none 0 0, .int .i64 0, .slice none 0 0] 35) := ⟨_, rfl⟩
  have hwV : Below w.heap.size w V := by rw [hV]; exact ((Below.refl _ _).alloc (Nat.le_refl _) _).alloc (by simp) _
  have OV : Cells V w.heap.size [.int .i64 m.name, .slice f1 m.args.length g1, .int .i64 m.gives, .slice f2 m.code.length g2] := by rw [hV]; exact (Cells.new w _ rfl _ _).alloc _
  have R0 : Cells V (w.heap.size + 1) [.int .i64 0, .slice none 0 0, .int .i64 0, .slice none 0 0] := by rw [hV]; exact Cells.new (w.alloc _) _ (by simp) _ _
  have KV : OwnAt w w.heap.size (.int .i64 m.name) (.slice f1 m.args.length g1) (.int .i64 m.gives) (.slice f2 m.code.length g2) V := ⟨hwV, ⟨_, _, _, _, R0⟩, OV⟩
  have HKN : Hid (w.heap.size ≠ w.heap.size + 1) := by show _ ≠ _; omega
  have KD := KV.drew.all
  clear hx hms R0
  go_enter Tryz.func26, Tryz.ntmps26
  go_upto_region 1 with fail
  rw [← hV]
  clear hV OV
  go_region_held3 (fun x => OwnAt w w.heap.size (.int .i64 m.name) (.slice f1 m.args.length g1) (.int .i64 m.gives) (.slice f2 m.code.length g2) x ∧ x.cell? ⟨w.heap.size, 0, none⟩ = some (.int .i64 m.name) ∧ x.cell? ⟨w.heap.size, 1, none⟩ = some (.slice f1 m.args.length g1) ∧ x.cell? ⟨w.heap.size, 2, none⟩ = some (.int .i64 m.gives) ∧ x.cell? ⟨w.heap.size, 3, none⟩ = some (.slice f2 m.code.length g2))
    (first | exact KD | assumption | exact OwnAt.all (OwnAt.set HKN.out (by assumption)))
    (first
      | (go_at_call 48; refine (cloneInts B f1 g1 m.args hms1 _ ?hx).mono ?_; (case hx => exact SI.on HXV.out.1 (Keep.of (OwnAt.below (by assumption)))); rintro e wA ⟨v4, rfl, hv4, hbA⟩; obtain ⟨a4, c4, rfl⟩ := hv4.form; have KA := OwnAt.all (OwnAt.on hbA (by assumption)); obtain ⟨s0, s1, s2, s3, RX⟩ := KA.1.2.1; obtain ⟨r0, q0⟩ := RX.g0; obtain ⟨r1, q1⟩ := RX.g1; obtain ⟨r2, q2⟩ := RX.g2; obtain ⟨r3, q3⟩ := RX.g3)
      | (go_at_call 49; refine (cloneCode B _ m.code hms2 _ ?hx).mono ?_; (case hx => exact front.on HXV.out.2 (Keep.of (OwnAt.below (by assumption)))); rintro e wB ⟨v5, rfl, hv5, hbB⟩; obtain ⟨a5, c5, rfl⟩ := front.form hv5; have KB := OwnAt.all (OwnAt.on hbB (by assumption)); obtain ⟨s0, s1, s2, s3, RX⟩ := KB.1.2.1; obtain ⟨r0, q0⟩ := RX.g0; obtain ⟨r1, q1⟩ := RX.g1; obtain ⟨r2, q2⟩ := RX.g2; obtain ⟨r3, q3⟩ := RX.g3))
  have R5 := (((RX.s0 (.int .i64 m.name)).s1 (.slice a4 m.args.length c4)).s2 (.int .i64 m.gives)).s3 (.slice a5 m.code.length c5)
  obtain ⟨e0, _⟩ := R5.g0
  obtain ⟨e1, _⟩ := R5.g1
  obtain ⟨e2, _⟩ := R5.g2
  obtain ⟨e3, _⟩ := R5.g3
  have hsV : w.heap.size + 2 ≤ V.drew.heap.size := by
    obtain ⟨_, _, _, _, h0⟩ := KD.1.2.1
    have h1 := cell_lt h0.g0.1
    simp at h1 ⊢
    omega
  have hsA : w.heap.size + 2 ≤ wA.heap.size := Nat.le_trans hsV hbA.size
  have hk : ∀ (x : World) (i : Nat) (v : Value), Keep (w.heap.size + 2) x (x.setCell ⟨w.heap.size + 1, i, none⟩ v) := fun x i v => Keep.set x (p := ⟨w.heap.size + 1, i, none⟩) (by simp) v
  have hkk := (((hk wB 0 (.int .i64 m.name)).trans (hk _ 1 (.slice a4 m.args.length c4))).trans (hk _ 2 (.int .i64 m.gives))).trans (hk _ 3 (.slice a5 m.code.length c5))
  have HMVF : Hid (AnsM w.heap.size ((((wB.setCell ⟨w.heap.size + 1, 0, none⟩ (.int .i64 m.name)).setCell ⟨w.heap.size + 1, 1, none⟩ (.slice a4 m.args.length c4)).setCell ⟨w.heap.size + 1, 2, none⟩ (.int .i64 m.gives)).setCell ⟨w.heap.size + 1, 3, none⟩ (.slice a5 m.code.length c5)) (.slice a4 m.args.length c4) (.slice a5 m.code.length c5) m) :=
    ⟨wA.heap.size, by omega, by have := hkk.size; have := hbB.size; omega, ((hv4.on hbB).keep hkk hsV).weak (by omega) (Nat.le_refl _), ((CZ.of hv5).keep hkk hsA).weak (Nat.le_refl _) hkk.size⟩
  have HCSF : Hid (CS w.heap.size ((((wB.setCell ⟨w.heap.size + 1, 0, none⟩ (.int .i64 m.name)).setCell ⟨w.heap.size + 1, 1, none⟩ (.slice a4 m.args.length c4)).setCell ⟨w.heap.size + 1, 2, none⟩ (.int .i64 m.gives)).setCell ⟨w.heap.size + 1, 3, none⟩ (.slice a5 m.code.length c5)) (.slice a5 m.code.length c5) m.code) := front.weak (front.on hv5 (hkk.mono hsA)) (by omega)
  have HBF : Hid (Below w.heap.size w ((((wB.setCell ⟨w.heap.size + 1, 0, none⟩ (.int .i64 m.name)).setCell ⟨w.heap.size + 1, 1, none⟩ (.slice a4 m.args.length c4)).setCell ⟨w.heap.size + 1, 2, none⟩ (.int .i64 m.gives)).setCell ⟨w.heap.size + 1, 3, none⟩ (.slice a5 m.code.length c5))) := (OwnAt.set (k := w.heap.size) HKN.out KB).1
  clear hkk hk hv4 hv5 hbA hbB R5 RX KA KB KD KV hsV hsA
  go_wp2
  refine bodyPost_ret (v := .agg #[.int .i64 m.name, .slice a4 m.args.length c4, .int .i64 m.gives, .slice a5 m.code.length c5]) (by simp [results, Tryz.results26, go_sem, e0, e1, e2, e3]) rfl ?_
  exact ⟨a4, c4, a5, c5, rfl, HMVF.out, HBF.out, HCSF.out⟩

set_option maxRecDepth 100000 in
set_option maxHeartbeats 4000000 in
theorem implMethodOf (B : Nat) (p : Prg) (a : Option Addr) (cap : Nat) (t name : Int) (hsp : SmallP p) (w : World) (hp : SK front B w (.slice a p.length cap) p) :
    Calls Tryz.prog 8 #[.agg #[.slice a p.length cap], .int .i64 t, .int .i64 name] w fun e w' => MPost p t name w e w' := by
  have HSP : Hid (SmallP p) := hsp
  have HP : Hid (SK front B w (.slice a p.length cap) p) := hp
  clear hp hsp
  obtain ⟨W, hW⟩ : ∃ W, W = (w.alloc (.cells #[.slice a p.length cap] 26)).alloc (.cells #[.int .i64 0, .slice none 0 0, .int .i64 0, .slice none 0 0] 35) := ⟨_, rfl⟩
  have hwW : Below w.heap.size w W := by rw [hW]; exact ((Below.refl _ _).alloc (Nat.le_refl _) _).alloc (by simp) _
  have P0 : Hid (Cells W w.heap.size [.slice a p.length cap]) := by rw [hW]; exact (Cells.new w _ rfl _ _).alloc _
  have R0 : Hid (Cells W (w.heap.size + 1) [.int .i64 0, .slice none 0 0, .int .i64 0, .slice none 0 0]) := by rw [hW]; exact Cells.new (w.alloc _) _ (by simp) _ _
  have HZ : Hid (∀ u, Below W.heap.size W u → methF p t name = none → MPost p t name w (.returned (.tuple #[.agg #[.int .i64 0, .slice none 0 0, .int .i64 0, .slice none 0 0], .bool false])) ((((u.setCell ⟨w.heap.size + 1, 0, none⟩ (.int .i64 0)).setCell ⟨w.heap.size + 1, 1, none⟩ (.slice none 0 0)).setCell ⟨w.heap.size + 1, 2, none⟩ (.int .i64 0)).setCell ⟨w.heap.size + 1, 3, none⟩ (.slice none 0 0))) := fun u hu hn =>
    ⟨.inr ⟨hn, rfl⟩, ((((below_over hwW hu).setCell (p := ⟨w.heap.size + 1, 0, none⟩) (by simp) _).setCell (p := ⟨w.heap.size + 1, 1, none⟩) (by simp) _).setCell (p := ⟨w.heap.size + 1, 2, none⟩) (by simp) _).setCell (p := ⟨w.heap.size + 1, 3, none⟩) (by simp) _⟩
  go_enter Tryz.func8, Tryz.ntmps8
  go_wp2_with fail
  rw [← hW]
  clear hW
  refine (isRightClass B p a cap t HSP.out _ (SK.on HP.out (Keep.of hwW))).mono ?_
  rintro e w2 ⟨rfl, hb1⟩
  have hW2 : Below W.heap.size W w2 := hb1
  clear hb1
  cases hok2 : (okP p && inB p t)
  · have HN : Hid (methF p t name = none) := methF_no hok2
    have RA := R0.out.on hW2
    obtain ⟨r0, q0⟩ := RA.g0
    obtain ⟨r1, q1⟩ := RA.g1
    obtain ⟨r2, q2⟩ := RA.g2
    obtain ⟨r3, q3⟩ := RA.g3
    have R5 := (((RA.s0 (.int .i64 0)).s1 (.slice none 0 0)).s2 (.int .i64 0)).s3 (.slice none 0 0)
    obtain ⟨e0, _⟩ := R5.g0
    obtain ⟨e1, _⟩ := R5.g1
    obtain ⟨e2, _⟩ := R5.g2
    obtain ⟨e3, _⟩ := R5.g3
    clear R5 RA hok2
    go_wp2
    refine bodyPost_ret (v := .tuple #[.agg #[.int .i64 0, .slice none 0 0, .int .i64 0, .slice none 0 0], .bool false]) (by simp [results, Tryz.results8, go_sem, e0, e1, e2, e3]) rfl ?_
    exact HZ.out _ hW2 HN.out
  · obtain ⟨hok, h0, h1⟩ := okIn hok2
    clear hok2
    obtain ⟨u, rfl⟩ := Int.eq_ofNat_of_zero_le h0
    have hup : u < p.length := by omega
    have hw2 : Below w.heap.size w w2 := below_over hwW hW2
    obtain ⟨b, o, rfl, _, vf, vm, d0, d1, d2, hcv⟩ := HP.out.get hup
    obtain ⟨z1, t1, rfl⟩ := hcv.1.form
    obtain ⟨z2, t2, rfl⟩ := hcv.2.form
    have l0 : b < w.heap.size := cell_lt d0
    have c0 := (hw2.cell l0).trans d0
    have c1 := (hw2.cell l0).trans d1
    have c2 := (hw2.cell l0).trans d2
    have HM : Hid (SM front B w (.slice z2 p[u].meths.length t2) p[u].meths) := hcv.2
    have hsc := HSP.out.2 _ (List.getElem_mem hup)
    have HSMM : Hid (∀ m ∈ p[u].meths, SmallM m) := hsc.2.2
    have hsl := hsc.2.1
    have HMF : Hid (methF p (u : Int) name = ownF p[u] name) := methF_at hok hup (List.getElem?_eq_getElem hup)
    generalize p[u] = c at *
    obtain ⟨pp, _⟩ := (P0.out.on hW2).g0
    clear hcv hsc d0 d1 d2 hok
    go_wp2_with fail
    refine (ownMethodR B c z1 z2 t2 c.fields.length t1 name hsl w _ hw2 HM.out).mono ?_
    rintro e w3 ⟨n, f1, l1, g1, gv, f2, l2, g2, q, rfl, hor, hb3⟩
    have hW3 : Below W.heap.size W w3 := below_over hW2 hb3
    clear hb3 c0 c1 c2 pp hW2 hw2
    obtain ⟨V, hV⟩ : ∃ V, V = w3.alloc (.cells #[.int .i64 n, .slice f1 l1 g1, .int .i64 gv, .slice f2 l2 g2] 35) := ⟨_, rfl⟩
    have hWV : Below W.heap.size W V := by rw [hV]; exact hW3.alloc hW3.size _
    have OV : Hid (Cells V w3.heap.size [.int .i64 n, .slice f1 l1 g1, .int .i64 gv, .slice f2 l2 g2]) := by rw [hV]; exact Cells.new w3 _ rfl _ _
    rcases hor.out with ⟨rfl, m, hox, rfl, rfl, rfl, rfl, hxv⟩ | ⟨rfl, hox⟩
    · have HMS : Hid (methF p (u : Int) name = some m) := by show _ = _; rw [HMF.out]; exact hox
      have hms := HSMM.out m (List.mem_of_find?_eq_some hox)
      have hms1 := hms.1
      have hms2 := hms.2
      have HXV : Hid (MV front B w (.slice f1 m.args.length g1) (.slice f2 m.code.length g2) m) := hxv
      have hwV : Below w.heap.size w V := below_over hwW hWV
      clear hor hox hxv hms HZ
      obtain ⟨o0, _⟩ := OV.out.g0
      obtain ⟨o1, _⟩ := OV.out.g1
      obtain ⟨o2, _⟩ := OV.out.g2
      obtain ⟨o3, _⟩ := OV.out.g3
      go_wp2_with fail
      rw [← hV]
      clear hV OV
      go_wp2_with fail
      refine (copiedMethod B m f1 f2 g1 g2 ⟨hms1, hms2⟩ _ ⟨SI.on HXV.out.1 (Keep.of hwV), front.on HXV.out.2 (Keep.of hwV)⟩).mono ?_
      rintro e wB ⟨a4, c4, a5, c5, rfl, hans, hbB, _⟩
      have hWB : Below W.heap.size W wB := below_over hWV hbB
      have hwB : Below w.heap.size w wB := below_over hwW hWB
      have RX := R0.out.on hWB
      obtain ⟨r0, q0⟩ := RX.g0
      obtain ⟨r1, q1⟩ := RX.g1
      obtain ⟨r2, q2⟩ := RX.g2
      obtain ⟨r3, q3⟩ := RX.g3
      have R5 := (((RX.s0 (.int .i64 m.name)).s1 (.slice a4 m.args.length c4)).s2 (.int .i64 m.gives)).s3 (.slice a5 m.code.length c5)
      obtain ⟨e0, _⟩ := R5.g0
      obtain ⟨e1, _⟩ := R5.g1
      obtain ⟨e2, _⟩ := R5.g2
      obtain ⟨e3, _⟩ := R5.g3
      have hsV : w.heap.size + 2 ≤ V.heap.size := by
        have h1 := cell_lt (R0.out.on hWV).g0.1
        simp at h1
        omega
      have hk : ∀ (x : World) (i : Nat) (v : Value), Keep (w.heap.size + 2) x (x.setCell ⟨w.heap.size + 1, i, none⟩ v) := fun x i v => Keep.set x (p := ⟨w.heap.size + 1, i, none⟩) (by simp) v
      have hkk := (((hk wB 0 (.int .i64 m.name)).trans (hk _ 1 (.slice a4 m.args.length c4))).trans (hk _ 2 (.int .i64 m.gives))).trans (hk _ 3 (.slice a5 m.code.length c5))
      have HMVF : Hid (AnsM w.heap.size ((((wB.setCell ⟨w.heap.size + 1, 0, none⟩ (.int .i64 m.name)).setCell ⟨w.heap.size + 1, 1, none⟩ (.slice a4 m.args.length c4)).setCell ⟨w.heap.size + 1, 2, none⟩ (.int .i64 m.gives)).setCell ⟨w.heap.size + 1, 3, none⟩ (.slice a5 m.code.length c5)) (.slice a4 m.args.length c4) (.slice a5 m.code.length c5) m) :=
        (hans.keep hkk hsV).weak (by omega)
      have HBF : Hid (Below w.heap.size w ((((wB.setCell ⟨w.heap.size + 1, 0, none⟩ (.int .i64 m.name)).setCell ⟨w.heap.size + 1, 1, none⟩ (.slice a4 m.args.length c4)).setCell ⟨w.heap.size + 1, 2, none⟩ (.int .i64 m.gives)).setCell ⟨w.heap.size + 1, 3, none⟩ (.slice a5 m.code.length c5))) := (((hwB.setCell (p := ⟨w.heap.size + 1, 0, none⟩) (by simp) _).setCell (p := ⟨w.heap.size + 1, 1, none⟩) (by simp) _).setCell (p := ⟨w.heap.size + 1, 2, none⟩) (by simp) _).setCell (p := ⟨w.heap.size + 1, 3, none⟩) (by simp) _
      clear hkk hk hans hbB R5 RX hsV hWB hwB o0 o1 o2 o3 hWV hwV
      go_wp2
      refine bodyPost_ret (v := .tuple #[.agg #[.int .i64 m.name, .slice a4 m.args.length c4, .int .i64 m.gives, .slice a5 m.code.length c5], .bool true]) (by simp [results, Tryz.results8, go_sem, e0, e1, e2, e3]) rfl ?_
      exact ⟨.inl ⟨m, a4, c4, a5, c5, HMS.out, rfl, HMVF.out⟩, HBF.out⟩
    · have HN : Hid (methF p (u : Int) name = none) := by show _ = _; rw [HMF.out]; exact hox
      have RA := R0.out.on hWV
      obtain ⟨r0, q0⟩ := RA.g0
      obtain ⟨r1, q1⟩ := RA.g1
      obtain ⟨r2, q2⟩ := RA.g2
      obtain ⟨r3, q3⟩ := RA.g3
      have R5 := (((RA.s0 (.int .i64 0)).s1 (.slice none 0 0)).s2 (.int .i64 0)).s3 (.slice none 0 0)
      obtain ⟨e0, _⟩ := R5.g0
      obtain ⟨e1, _⟩ := R5.g1
      obtain ⟨e2, _⟩ := R5.g2
      obtain ⟨e3, _⟩ := R5.g3
      have HF := HZ.out V hWV HN.out
      have HFH : Hid (MPost p (u : Int) name w (.returned (.tuple #[.agg #[.int .i64 0, .slice none 0 0, .int .i64 0, .slice none 0 0], .bool false])) ((((V.setCell ⟨w.heap.size + 1, 0, none⟩ (.int .i64 0)).setCell ⟨w.heap.size + 1, 1, none⟩ (.slice none 0 0)).setCell ⟨w.heap.size + 1, 2, none⟩ (.int .i64 0)).setCell ⟨w.heap.size + 1, 3, none⟩ (.slice none 0 0))) := HF
      rw [hV] at r0 r1 r2 r3 q0 q1 q2 q3 e0 e1 e2 e3 HFH
      clear R5 RA hor hox HF HZ hV OV hWV
      go_wp2
      refine bodyPost_ret (v := .tuple #[.agg #[.int .i64 0, .slice none 0 0, .int .i64 0, .slice none 0 0], .bool false]) (by simp [results, Tryz.results8, go_sem, e0, e1, e2, e3]) rfl ?_
      exact HFH.out
end Pg
end Go.Proofs.YtbgbddahniacbaaGreatDoor

/- The contract of the other side's MethodOf. -/
namespace Go.Proofs.YtbgbddahniacbaaGreatDoor
namespace Pg
open Go.ChangeShapes Go.WideShapes Go.ChangeAt Go.RowKit St

set_option maxRecDepth 100000 in
set_option maxHeartbeats 4000000 in
theorem specMethodOf (B : Nat) (p : Prg) (a : Option Addr) (cap : Nat) (t name : Int) (hsp : SmallP p) (w : World) (hp : SK front B w (.slice a p.length cap) p) :
    Calls Tryz.prog 10 #[.agg #[.slice a p.length cap], .int .i64 t, .int .i64 name] w fun e w' => MPost p t name w e w' := by
  have HSP : Hid (SmallP p) := hsp
  have HP : Hid (SK front B w (.slice a p.length cap) p) := hp
  clear hp hsp
  obtain ⟨W, hW⟩ : ∃ W, W = (w.alloc (.cells #[.slice a p.length cap] 26)).alloc (.cells #[.int .i64 0, .slice none 0 0, .int .i64 0, .slice none 0 0] 35) := ⟨_, rfl⟩
  have hwW : Below w.heap.size w W := by rw [hW]; exact ((Below.refl _ _).alloc (Nat.le_refl _) _).alloc (by simp) _
  have P0 : Hid (Cells W w.heap.size [.slice a p.length cap]) := by rw [hW]; exact (Cells.new w _ rfl _ _).alloc _
  have R0 : Hid (Cells W (w.heap.size + 1) [.int .i64 0, .slice none 0 0, .int .i64 0, .slice none 0 0]) := by rw [hW]; exact Cells.new (w.alloc _) _ (by simp) _ _
  have HZ : Hid (∀ u, Below W.heap.size W u → methF p t name = none → MPost p t name w (.returned (.tuple #[.agg #[.int .i64 0, .slice none 0 0, .int .i64 0, .slice none 0 0], .bool false])) ((((u.setCell ⟨w.heap.size + 1, 0, none⟩ (.int .i64 0)).setCell ⟨w.heap.size + 1, 1, none⟩ (.slice none 0 0)).setCell ⟨w.heap.size + 1, 2, none⟩ (.int .i64 0)).setCell ⟨w.heap.size + 1, 3, none⟩ (.slice none 0 0))) := fun u hu hn =>
    ⟨.inr ⟨hn, rfl⟩, ((((below_over hwW hu).setCell (p := ⟨w.heap.size + 1, 0, none⟩) (by simp) _).setCell (p := ⟨w.heap.size + 1, 1, none⟩) (by simp) _).setCell (p := ⟨w.heap.size + 1, 2, none⟩) (by simp) _).setCell (p := ⟨w.heap.size + 1, 3, none⟩) (by simp) _⟩
  go_enter Tryz.func10, Tryz.ntmps10
  go_wp2_with fail
  rw [← hW]
  clear hW
  refine (l4In B p a cap t HSP.out _ (SK.on HP.out (Keep.of hwW))).mono ?_
  rintro e w2 ⟨rfl, hb1⟩
  have hW2 : Below W.heap.size W w2 := hb1
  clear hb1
  cases hok : (okP p && inB p t)
  · have HN : Hid (methF p t name = none) := methF_no hok
    clear hok
    have RA := R0.out.on hW2
    obtain ⟨r0, q0⟩ := RA.g0
    obtain ⟨r1, q1⟩ := RA.g1
    obtain ⟨r2, q2⟩ := RA.g2
    obtain ⟨r3, q3⟩ := RA.g3
    have R5 := (((RA.s0 (.int .i64 0)).s1 (.slice none 0 0)).s2 (.int .i64 0)).s3 (.slice none 0 0)
    obtain ⟨e0, _⟩ := R5.g0
    obtain ⟨e1, _⟩ := R5.g1
    obtain ⟨e2, _⟩ := R5.g2
    obtain ⟨e3, _⟩ := R5.g3
    clear R5 RA
    go_wp2
    refine bodyPost_ret (v := .tuple #[.agg #[.int .i64 0, .slice none 0 0, .int .i64 0, .slice none 0 0], .bool false]) (by simp [results, Tryz.results10, go_sem, e0, e1, e2, e3]) rfl ?_
    exact HZ.out _ hW2 HN.out
  · simp only [Bool.and_eq_true, inB, decide_eq_true_eq] at hok
    obtain ⟨hk, h0, h1⟩ := hok
    obtain ⟨u, rfl⟩ := Int.eq_ofNat_of_zero_le h0
    have hup : u < p.length := by omega
    have hw2 : Below w.heap.size w w2 := below_over hwW hW2
    obtain ⟨b, o, rfl, _, vf, vm, d0, d1, d2, hcv⟩ := HP.out.get hup
    obtain ⟨z1, t1, rfl⟩ := hcv.1.form
    obtain ⟨z2, t2, rfl⟩ := hcv.2.form
    have l0 : b < w.heap.size := cell_lt d0
    have c0 := (hw2.cell l0).trans d0
    have c1 := (hw2.cell l0).trans d1
    have c2 := (hw2.cell l0).trans d2
    have HM : Hid (SM front B w (.slice z2 p[u].meths.length t2) p[u].meths) := hcv.2
    have hsc := HSP.out.2 _ (List.getElem_mem hup)
    have HSMM : Hid (∀ m ∈ p[u].meths, SmallM m) := hsc.2.2
    have hsl := hsc.2.1
    have HMF : Hid (methF p (u : Int) name = ownF p[u] name) := methF_at hk hup (List.getElem?_eq_getElem hup)
    generalize p[u] = c at *
    obtain ⟨pp, _⟩ := (P0.out.on hW2).g0
    have D2 : Hid (w.cell? ⟨b, o + u * 3 + 2, none⟩ = some (.slice z2 c.meths.length t2)) := by first | exact d2 | simpa [Nat.add_assoc] using d2
    clear hcv hsc d0 d1 d2 hk
    go_wp2_with fail
    refine (l4Own B c z1 z2 t2 c.fields.length t1 name hsl _ (SM.on HM.out (Keep.of hw2))).mono ?_
    rintro e w3 ⟨rfl, hb3⟩
    have hW3 : Below W.heap.size W w3 := below_over hW2 hb3
    have hw3 : Below w.heap.size w w3 := below_over hwW hW3
    obtain ⟨pp, _⟩ := (P0.out.on hW3).g0
    have c2 := (hb3.cell (cell_lt c2)).trans c2
    clear hb3 c0 c1 hW2 hw2
    rcases ownI_cases c name with ⟨hI, hF⟩ | ⟨kk, m, hkk, hx, hI, hF⟩
    · have HN : Hid (methF p (u : Int) name = none) := by show _ = _; rw [HMF.out]; exact hF
      rw [hI]
      clear hI hF
      have RA := R0.out.on hW3
      obtain ⟨r0, q0⟩ := RA.g0
      obtain ⟨r1, q1⟩ := RA.g1
      obtain ⟨r2, q2⟩ := RA.g2
      obtain ⟨r3, q3⟩ := RA.g3
      have R5 := (((RA.s0 (.int .i64 0)).s1 (.slice none 0 0)).s2 (.int .i64 0)).s3 (.slice none 0 0)
      obtain ⟨e0, _⟩ := R5.g0
      obtain ⟨e1, _⟩ := R5.g1
      obtain ⟨e2, _⟩ := R5.g2
      obtain ⟨e3, _⟩ := R5.g3
      clear R5 RA
      go_wp2
      refine bodyPost_ret (v := .tuple #[.agg #[.int .i64 0, .slice none 0 0, .int .i64 0, .slice none 0 0], .bool false]) (by simp [results, Tryz.results10, go_sem, e0, e1, e2, e3]) rfl ?_
      exact HZ.out _ hW3 HN.out
    · have HMS : Hid (methF p (u : Int) name = some m) := by show _ = _; rw [HMF.out]; exact hF
      have hkki : (kk : Int) < (c.meths.length : Int) := by omega
      have hkk0 : (0 : Int) ≤ (kk : Int) := by omega
      obtain ⟨bx, ox, rfl, _, wa, wc, g0, g1, g2, g3, hxv⟩ := HM.out.get hkk
      obtain ⟨x3, y3, rfl⟩ := hxv.1.form
      have exx : c.meths[kk] = m := by
        rw [List.getElem?_eq_getElem hkk] at hx
        simpa using hx
      rw [exx] at g0 g1 g2 hxv
      obtain ⟨gc, y4, rfl⟩ := front.form hxv.2
      have lx : bx < w.heap.size := cell_lt g1
      have g0' := (hw3.cell lx).trans g0
      have g1' := (hw3.cell lx).trans g1
      have g2' := (hw3.cell lx).trans g2
      have g3' := (hw3.cell lx).trans g3
      have HXV : Hid (MV front B w (.slice x3 m.args.length y3) (.slice gc m.code.length y4) m) := hxv
      have HSM : Hid (SmallM m) := HSMM.out m (List.mem_of_getElem? hx)
      rw [hI]
      clear hI hF exx hxv hx g0 g1 g2 g3 HZ
      go_wp2_with fail
      refine (l4Copy B m _ _ HSM.out _ (MV.on HXV.out (Keep.of hw3))).mono ?_
      rintro e w5 ⟨a4, c4, a5, c5, rfl, hmv, hb5, _⟩
      have RX := (R0.out.on hW3).on hb5
      obtain ⟨r0, q0⟩ := RX.g0
      obtain ⟨r1, q1⟩ := RX.g1
      obtain ⟨r2, q2⟩ := RX.g2
      obtain ⟨r3, q3⟩ := RX.g3
      have R5 := (((RX.s0 (.int .i64 m.name)).s1 (.slice a4 m.args.length c4)).s2 (.int .i64 m.gives)).s3 (.slice a5 m.code.length c5)
      obtain ⟨e0, _⟩ := R5.g0
      obtain ⟨e1, _⟩ := R5.g1
      obtain ⟨e2, _⟩ := R5.g2
      obtain ⟨e3, _⟩ := R5.g3
      have hsW : w.heap.size + 2 ≤ w3.heap.size := by
        have h1 := cell_lt (R0.out.g0).1
        have h2 := hW3.size
        simp at h1
        omega
      have hk : ∀ (x : World) (i : Nat) (v : Value), Keep (w.heap.size + 2) x (x.setCell ⟨w.heap.size + 1, i, none⟩ v) := fun x i v => Keep.set x (p := ⟨w.heap.size + 1, i, none⟩) (by simp) v
      have hkk' := (((hk w5 0 (.int .i64 m.name)).trans (hk _ 1 (.slice a4 m.args.length c4))).trans (hk _ 2 (.int .i64 m.gives))).trans (hk _ 3 (.slice a5 m.code.length c5))
      have HMVF : Hid (AnsM w.heap.size ((((w5.setCell ⟨w.heap.size + 1, 0, none⟩ (.int .i64 m.name)).setCell ⟨w.heap.size + 1, 1, none⟩ (.slice a4 m.args.length c4)).setCell ⟨w.heap.size + 1, 2, none⟩ (.int .i64 m.gives)).setCell ⟨w.heap.size + 1, 3, none⟩ (.slice a5 m.code.length c5)) (.slice a4 m.args.length c4) (.slice a5 m.code.length c5) m) :=
        (hmv.keep hkk' hsW).weak (by omega)
      have hw5 : Below w.heap.size w w5 := below_over hw3 hb5
      have HBF : Hid (Below w.heap.size w ((((w5.setCell ⟨w.heap.size + 1, 0, none⟩ (.int .i64 m.name)).setCell ⟨w.heap.size + 1, 1, none⟩ (.slice a4 m.args.length c4)).setCell ⟨w.heap.size + 1, 2, none⟩ (.int .i64 m.gives)).setCell ⟨w.heap.size + 1, 3, none⟩ (.slice a5 m.code.length c5))) := (((hw5.setCell (p := ⟨w.heap.size + 1, 0, none⟩) (by simp) _).setCell (p := ⟨w.heap.size + 1, 1, none⟩) (by simp) _).setCell (p := ⟨w.heap.size + 1, 2, none⟩) (by simp) _).setCell (p := ⟨w.heap.size + 1, 3, none⟩) (by simp) _
      clear hkk' hk hmv hb5 R5 RX hw5 pp c2 g0' g1' g2' g3'
      go_wp2
      refine bodyPost_ret (v := .tuple #[.agg #[.int .i64 m.name, .slice a4 m.args.length c4, .int .i64 m.gives, .slice a5 m.code.length c5], .bool true]) (by simp [results, Tryz.results10, go_sem, e0, e1, e2, e3]) rfl ?_
      exact ⟨.inl ⟨m, a4, c4, a5, c5, HMS.out, rfl, HMVF.out⟩, HBF.out⟩
end Pg
end Go.Proofs.YtbgbddahniacbaaGreatDoor
