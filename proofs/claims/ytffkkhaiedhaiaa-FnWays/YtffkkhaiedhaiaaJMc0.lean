/- How a machine begins: the specification's frame and Started. -/
import Derived.Test.YtffkkhaiedhaiaaJSd3
import Derived.Test.YtffkkhaiedhaiaaJPs1
import Derived.Maps.AppendAt
import Derived.Test.YtffkkhaiedhaiaaJMq1
import Derived.Test.YtffkkhaiedhaiaaJMp2
namespace Go.Proofs.Ytffkkhaiedhaiaa
namespace Pg
open Go.ChangeShapes Go.WideShapes Go.ChangeAt Go.RowKit St

def slenC8 : Option Value → Nat
  | some (.slice _ n _) => n
  | _ => 0
set_option maxRecDepth 100000 in
set_option maxHeartbeats 2000000 in
theorem l8Frame_at {f : Bool} (B : Nat) (cls nm : Int) (ad : Addr) (cap : Nat) (l : List Vl) (h8 : l.length ≤ 8) (w : World) (h : SV f B w (.slice (some ad) l.length cap) l) :
    Calls Try.prog 83 #[.int .i64 cls, .int .i64 nm, .slice (some ad) l.length cap] w fun e w' => ∃ x y, e = .returned (.agg #[.int .i64 cls, .int .i64 nm, .int .i64 0, .slice none 0 0, .slice x 8 y]) ∧ VZ (fun k => w.heap.size < k ∧ k < w'.heap.size) w' (.slice x 8 y) (frmV l) ∧ Below w.heap.size w w' := by
  obtain ⟨i0, hif, hz0, hz1, hz2⟩ := info_parts infoValue
  have HN : Hid (∀ x, Below w.heap.size w x → ∀ j u, (flatV l)[j]? = some u → x.cell? (ad.add j) = some u) := fun x hx => SV.flat (SV.on h (Keep.of hx))
  clear h
  obtain ⟨W, hW⟩ : ∃ W, W = w.alloc (.cells #[.int .i64 0, .int .i64 0, .int .i64 0, .slice none 0 0, .slice none 0 0] 49) := ⟨_, rfl⟩
  have hwW : Below w.heap.size w W := by rw [hW]; exact (Below.refl _ _).alloc (Nat.le_refl _) _
  have R0 : Hid (Cells W w.heap.size [.int .i64 0, .int .i64 0, .int .i64 0, .slice none 0 0, .slice none 0 0]) := by rw [hW]; exact Cells.new w _ rfl _ _
  have HZ : Hid (W.heap.size = w.heap.size + 1) := by rw [hW]; show _ = _; simp
  have HOW : Hid ((W.alloc (.cells #[] 57)).ownsRow W.heap.size 57 2 (.slice (some ⟨W.heap.size, 0, none⟩) 0 0) 0 []) := World.ownsRow_made W #[] 0 (Nat.le_refl _) (by decide) (by simp)
  have HWE : Hid (W = w.alloc (.cells #[.int .i64 0, .int .i64 0, .int .i64 0, .slice none 0 0, .slice none 0 0] 49)) := hW
  rw [hW] at HOW
  simp only [World.size_alloc] at HOW
  clear hW
  go_enter Try.func83, Try.ntmps83
  go_wp2_with (at_builtin; refine wpList_append_own _ rfl _ _ 47 rfl (w.heap.size + 1) 57 i0 (.agg #[.int .i64 0, .int .i64 0]) 2 16 Try.underlying47 hif hz0 hz1 hz2 rfl (by decide) _ _ _ rfl HOW.out ad l.length cap (flatV l) rfl (flatV_len l) (HN.out _ (((Below.refl _ _).alloc (Nat.le_refl _) _).alloc (by simp) _)) (flatV_one _) (by unfold maxLen; omega) (by omega) (by simp) ?_)
  intro v1 w1 hown hgrow hnil
  rw [← HWE.out] at hgrow
  have hb1 : Below W.heap.size W w1 := ((Below.refl _ _).alloc (Nat.le_refl _) _).grown hgrow (by simp) (fun g hg => by simp [Value.ownBlock] at hg; have := HZ.out; omega)
  have HG1 : Hid (GrowV W.heap.size w1 v1 l) := by
    refine ⟨?_, fun h => by first | exact hnil h | exact absurd (hnil.1 h).1 (by simp)⟩
    rw [HZ.out]
    simpa using hown
  obtain ⟨g, c, hv1, hgB, hgl⟩ := GrowV.form HG1.out
  subst hv1
  clear hown hgrow hnil HOW HN HWE
  obtain ⟨V, hV⟩ : ∃ V, V = w1.alloc (.cells #[.int .i64 cls, .int .i64 nm, .int .i64 0, .slice none 0 0, .slice (some ⟨g, 0, none⟩) l.length c] 49) := ⟨_, rfl⟩
  have hbV : Below w1.heap.size w1 V := by rw [hV]; exact (Below.refl _ _).alloc (Nat.le_refl _) _
  have FV0 : Hid (Cells V w1.heap.size [.int .i64 cls, .int .i64 nm, .int .i64 0, .slice none 0 0, .slice (some ⟨g, 0, none⟩) l.length c]) := by rw [hV]; exact Cells.new w1 _ rfl _ _
  have RV0 : Hid (Cells V w.heap.size [.int .i64 0, .int .i64 0, .int .i64 0, .slice none 0 0, .slice none 0 0]) := (R0.out.on hb1).on hbV
  have GV0 : Hid (GrowV W.heap.size V (.slice (some ⟨g, 0, none⟩) l.length c) l) := ⟨ownOn HG1.out.1 hbV, by simp⟩
  have hwV : Below w.heap.size w V := below_over (below_over hwW hb1) hbV
  have hzV : w1.heap.size < V.heap.size := cell_lt FV0.out.g0.1
  have HGW : Hid (g < w1.heap.size) := hgl
  have HZ1 : Hid (W.heap.size ≤ w1.heap.size) := hb1.size
  clear hb1 hbV hgB hgl HG1 R0
  go_wp2
  rw [← hV]
  clear hV
  go_loopw [] (fun wr => ∃ (k q cp : Nat), l.length + k ≤ 8 ∧ Hid (GrowV W.heap.size wr (.slice (some ⟨q, 0, none⟩) (l.length + k) cp) (l ++ List.replicate k (1, 0))) ∧ q ≠ w1.heap.size ∧ Hid (Cells wr w1.heap.size [.int .i64 cls, .int .i64 nm, .int .i64 0, .slice none 0 0, .slice (some ⟨q, 0, none⟩) (l.length + k) cp]) ∧ Hid (Cells wr w.heap.size [.int .i64 0, .int .i64 0, .int .i64 0, .slice none 0 0, .slice none 0 0]) ∧ w1.heap.size < wr.heap.size ∧ Hid (Below w.heap.size w wr)) (fun wr => 8 - slenC8 (wr.cell? ⟨w1.heap.size, 4, none⟩))
  case atStart => exact ⟨0, g, c, by omega, by show GrowV _ _ _ _; rw [List.replicate_zero, List.append_nil]; exact GV0.out, by have := HGW.out; omega, FV0.out, RV0.out, hzV, hwV⟩
  case round =>
    obtain ⟨k, q, cp, hk, hg, hqn, hF, hR, hsz, hb⟩ := hrel
    obtain ⟨f4, p4⟩ := hF.out.g4
    by_cases hlt : l.length + k < 8
    · have hd : decide (((l.length + k : Nat) : Int) < 8) = true := by simp; omega
      have HRP : Hid (l ++ List.replicate (k + 1) ((1, 0) : Vl) = (l ++ List.replicate k ((1, 0) : Vl)) ++ [(1, 0)]) := by show _ = _; rw [List.replicate_succ', List.append_assoc]
      have hlen : (l ++ List.replicate k ((1, 0) : Vl)).length = l.length + k := by simp
      have HGA : Hid ((wr.alloc (.cells #[.int .i64 1, .int .i64 0] 57)).ownsRow W.heap.size 57 2 (.slice (some ⟨q, 0, none⟩) (l.length + k) cp) (l.length + k) (flatV (l ++ List.replicate k (1, 0)))) := by
        have h := hg.out.1.alloc (.cells #[.int .i64 1, .int .i64 0] 57)
        rw [hlen] at h
        exact h
      have hba : Below wr.heap.size wr (wr.alloc (.cells #[.int .i64 1, .int .i64 0] 57)) := (Below.refl _ _).alloc (Nat.le_refl _) _
      have HFA : Hid (Cells (wr.alloc (.cells #[.int .i64 1, .int .i64 0] 57)) w1.heap.size [.int .i64 cls, .int .i64 nm, .int .i64 0, .slice none 0 0, .slice (some ⟨q, 0, none⟩) (l.length + k) cp]) := hF.out.on hba
      have HRA : Hid (Cells (wr.alloc (.cells #[.int .i64 1, .int .i64 0] 57)) w.heap.size [.int .i64 0, .int .i64 0, .int .i64 0, .slice none 0 0, .slice none 0 0]) := hR.out.on hba
      have HBA : Hid (Below w.heap.size w (wr.alloc (.cells #[.int .i64 1, .int .i64 0] 57))) := below_over hb.out hba
      have HM0 : Hid (slenC8 (wr.cell? ⟨w1.heap.size, 4, none⟩) = l.length + k) := by show _ = _; rw [f4]; rfl
      have hws : W.heap.size ≤ wr.heap.size := by have := HZ1.out; omega
      clear hba hg hF hR hb hlen
      go_wp2_with (at_builtin; refine wpList_append_own_at _ rfl _ _ 47 rfl W.heap.size 57 i0 (.agg #[.int .i64 0, .int .i64 0]) 2 16 Try.underlying47 hif hz0 hz1 hz2 rfl (by decide) _ _ _ rfl HGA.out ⟨wr.heap.size, 0, none⟩ 1 1 (flatV [(1, 0)]) rfl rfl (lit_two wr (1, 0) _).out (flatV_one _) (by unfold maxLen; omega) (by omega) (by simp; omega) ?_)
      intro v2 w3 hown hgrow hnil hat
      have O3 : Hid (Cells w3 w1.heap.size [.int .i64 cls, .int .i64 nm, .int .i64 0, .slice none 0 0, .slice (some ⟨q, 0, none⟩) (l.length + k) cp]) := HFA.out.grown hgrow (by simp [Value.ownBlock]; omega)
      have R3 : Hid (Cells w3 w.heap.size [.int .i64 0, .int .i64 0, .int .i64 0, .slice none 0 0, .slice none 0 0]) := HRA.out.grown hgrow (own_block_ge HGA.out (by have := HZ.out; omega))
      have B3 : Hid (Below w.heap.size w w3) := HBA.out.grown hgrow HBA.out.size (fun j hj => by have := (HGA.out.lt j hj).1; have := HZ.out; omega)
      have HG2 : GrowV W.heap.size w3 v2 (l ++ List.replicate (k + 1) (1, 0)) := by
        rw [HRP.out]
        refine ⟨?_, fun e => ?_⟩
        · have e2 : ((l ++ List.replicate k ((1, 0) : Vl)) ++ [(1, 0)]).length = l.length + k + 1 := by simp; omega
          rw [flatV_app, e2]; exact hown
        · first | exact hnil e | exact absurd (hnil.1 e).1 (by simp)
      have hl2 : (l ++ List.replicate (k + 1) ((1, 0) : Vl)).length = l.length + (k + 1) := by simp
      obtain ⟨q2, cp2, hv2, _, hq2l⟩ := GrowV.form HG2
      rw [hl2] at hv2
      subst hv2
      have hq2 : q2 ≠ w1.heap.size := by
        rcases hat with e | e
        · simp [Value.ownBlock] at e
          omega
        · simp [Value.ownBlock] at e
          omega
      have hn2 : (Value.slice (some ⟨q2, 0, none⟩) (l.length + (k + 1)) cp2).ownBlock ≠ some w1.heap.size := by simp [Value.ownBlock]; omega
      obtain ⟨o4, z4⟩ := O3.out.g4
      have hz3 : w1.heap.size < w3.heap.size := cell_lt o4
      have HG4 : Hid (GrowV W.heap.size (w3.setCell ⟨w1.heap.size, 4, none⟩ (.slice (some ⟨q2, 0, none⟩) (l.length + (k + 1)) cp2)) (.slice (some ⟨q2, 0, none⟩) (l.length + (k + 1)) cp2) (l ++ List.replicate (k + 1) (1, 0))) := ⟨own_offV HG2.1 (grown_cellV _ ⟨w1.heap.size, 4, none⟩ _) hn2, by simp⟩
      have O4 : Hid (Cells (w3.setCell ⟨w1.heap.size, 4, none⟩ (.slice (some ⟨q2, 0, none⟩) (l.length + (k + 1)) cp2)) w1.heap.size [.int .i64 cls, .int .i64 nm, .int .i64 0, .slice none 0 0, .slice (some ⟨q2, 0, none⟩) (l.length + (k + 1)) cp2]) := O3.out.s4 _
      have R4 : Hid (Cells (w3.setCell ⟨w1.heap.size, 4, none⟩ (.slice (some ⟨q2, 0, none⟩) (l.length + (k + 1)) cp2)) w.heap.size [.int .i64 0, .int .i64 0, .int .i64 0, .slice none 0 0, .slice none 0 0]) := R3.out.far _ _ (by show w1.heap.size ≠ _; have := HZ.out; have := HZ1.out; omega)
      have B4 : Hid (Below w.heap.size w (w3.setCell ⟨w1.heap.size, 4, none⟩ (.slice (some ⟨q2, 0, none⟩) (l.length + (k + 1)) cp2))) := B3.out.setCell (p := ⟨w1.heap.size, 4, none⟩) (by have := HZ.out; have := HZ1.out; show _ ≤ w1.heap.size; omega) _
      have HM4 : Hid (slenC8 ((w3.setCell ⟨w1.heap.size, 4, none⟩ (.slice (some ⟨q2, 0, none⟩) (l.length + (k + 1)) cp2)).cell? ⟨w1.heap.size, 4, none⟩) = l.length + (k + 1)) := by show _ = _; rw [O4.out.g4.1]; rfl
      clear hown hgrow hnil hat HG2 hl2 hq2l hn2 O3 R3 B3 HGA HFA HRA HBA f4 p4
      go_wp2
      go_roundw
      case rel => exact ⟨k + 1, q2, cp2, by omega, HG4.out, hq2, O4.out, R4.out, by simpa using hz3, B4.out⟩
      case measure => rw [HM4.out, HM0.out]; omega
    · have hk8 : l.length + k = 8 := by omega
      have HE : Hid (l ++ List.replicate k ((1, 0) : Vl) = frmV l) := by show _ = l ++ List.replicate (8 - l.length) (1, 0); congr 2; omega
      have HG8 : Hid (GrowV W.heap.size wr (.slice (some ⟨q, 0, none⟩) 8 cp) (frmV l)) := by rw [← HE.out, ← hk8]; exact hg.out
      rw [hk8] at f4
      obtain ⟨f0, _⟩ := hF.out.g0
      obtain ⟨f1, _⟩ := hF.out.g1
      obtain ⟨f2, _⟩ := hF.out.g2
      obtain ⟨f3, _⟩ := hF.out.g3
      obtain ⟨r0, q0⟩ := hR.out.g0
      obtain ⟨r1, q1⟩ := hR.out.g1
      obtain ⟨r2, q2⟩ := hR.out.g2
      obtain ⟨r3, q3⟩ := hR.out.g3
      obtain ⟨r4, q4⟩ := hR.out.g4
      have R5 := (((((hR.out.s0 (.int .i64 cls)).s1 (.int .i64 nm)).s2 (.int .i64 0)).s3 (.slice none 0 0)).s4 (.slice (some ⟨q, 0, none⟩) 8 cp))
      obtain ⟨e0, _⟩ := R5.g0
      obtain ⟨e1, _⟩ := R5.g1
      obtain ⟨e2, _⟩ := R5.g2
      obtain ⟨e3, _⟩ := R5.g3
      obtain ⟨e4, _⟩ := R5.g4
      have HT : Hid (Tch (fun k => k = w.heap.size) wr (((((wr.setCell ⟨w.heap.size, 0, none⟩ (.int .i64 cls)).setCell ⟨w.heap.size, 1, none⟩ (.int .i64 nm)).setCell ⟨w.heap.size, 2, none⟩ (.int .i64 0)).setCell ⟨w.heap.size, 3, none⟩ (.slice none 0 0)).setCell ⟨w.heap.size, 4, none⟩ (.slice (some ⟨q, 0, none⟩) 8 cp))) := (((((Tch.set (S := fun k => k = w.heap.size) wr (p := ⟨w.heap.size, 0, none⟩) rfl (.int .i64 cls)).trans (Tch.set (S := fun k => k = w.heap.size) _ (p := ⟨w.heap.size, 1, none⟩) rfl (.int .i64 nm))).trans (Tch.set (S := fun k => k = w.heap.size) _ (p := ⟨w.heap.size, 2, none⟩) rfl (.int .i64 0))).trans (Tch.set (S := fun k => k = w.heap.size) _ (p := ⟨w.heap.size, 3, none⟩) rfl (.slice none 0 0))).trans (Tch.set (S := fun k => k = w.heap.size) _ (p := ⟨w.heap.size, 4, none⟩) rfl (.slice (some ⟨q, 0, none⟩) 8 cp)))
      have HV : Hid (VZ (fun k => w.heap.size < k ∧ k < wr.heap.size) wr (.slice (some ⟨q, 0, none⟩) 8 cp) (frmV l)) := HG8.out.vz.weak (fun k hk => ⟨by have := HZ.out; omega, hk.2⟩)
      clear R5 HG8 HE hg hF hR hk8
      go_wp2
      refine bodyPost_ret (v := .agg #[.int .i64 cls, .int .i64 nm, .int .i64 0, .slice none 0 0, .slice (some ⟨q, 0, none⟩) 8 cp]) (by simp [results, Try.results83, go_sem, e0, e1, e2, e3, e4]) rfl ?_
      refine ⟨_, _, rfl, ?_, hb.out.trans (HT.out.below (by have := hb.out.size; omega) (fun k hk => by omega))⟩
      exact (HV.out.tch HT.out (fun k hk hk2 => by omega)).weak (fun k hk => ⟨hk.1, by simpa using hk.2⟩)
end Pg
end Go.Proofs.Ytffkkhaiedhaiaa

/- The machine's call, its last piece: the arguments, the stack, the new frame. -/
namespace Go.Proofs.Ytffkkhaiedhaiaa
namespace Pg
open Go.ChangeShapes Go.WideShapes Go.ChangeAt Go.RowKit St Wd

theorem SV.drop {B : Nat} {w : World} {g : Nat} {n c : Nat} {l : List Vl} (h : SV true B w (.slice (some ⟨g, 0, none⟩) n c) l) {k c' : Nat} (hk : k < l.length) : SV true B w (.slice (some ⟨g, k * 2, none⟩) (l.drop k).length c') (l.drop k) := by
  obtain ⟨a', c0, hv, hz, h⟩ := h
  injection hv with e1 e2 e3
  subst e1 e3
  obtain ⟨b, o, ha, hB, ⟨hl, hf⟩, hx⟩ := h (by omega)
  injection ha with ha
  injection ha with e4 e5
  subst e4 e5
  refine ⟨_, c', rfl, fun _ e => by simp at e, fun _ => ⟨g, k * 2, rfl, hB, ⟨hl, fun e j hj => ?_⟩, fun j x hj => ?_⟩⟩
  · have := hf e (k * 2 + j) (by rw [List.length_drop] at hj; omega)
    rw [Nat.zero_add] at this
    exact this
  · have := hx (k + j) x (by rw [← hj, List.getElem?_drop])
    rw [Nat.zero_add, Nat.add_mul] at this
    exact this
noncomputable def c9 (l : List Bool) : Code := sub (Try.f92.body.getD .skip) l
set_option maxRecDepth 100000 in
set_option maxHeartbeats 4000000 in
theorem callTail (B M : Nat) (m : Mc) (q : Nat) (f : Fr) (G fcap : Nat) (vS vL vh vs : Value) (ch cf : List (List Value)) (Th Tf : Nat → Nat → Nat → Prop) (w : World) (hB : B ≤ w.heap.size)
    (hT : Tp B M w m (q + 1) q f G fcap vS vL vh vs ch cf Th Tf) (hq : m.frames.length = q + 1) (h30 : q + 1 < 30)
    (A Bi : Int) (b5 : Nat) (hI : Cells w b5 [.int .i64 17, .int .i64 A, .int .i64 Bi]) (hb5 : b5 ≠ G) (keep : Nat) (hk : keep < f.stk.length) (h8 : f.stk.length ≤ 8) (cto : Int)
    (R : Ending → World → Prop) (hR : ∀ w', MSt B M w' { m with frames := (m.frames.dropLast ++ [{ f with stk := f.stk.take keep }]) ++ [⟨cto, Bi, 0, [], frmV (f.stk.drop keep)⟩] } → Below B w w' → R (.returned (.int .i64 0)) w')
    {u0 u2 u3 u4 u6 u8 u9 u11 u12 u14 u15 u16 u17 u18 u19 u20 u21 u22 u23 u24 u25 u26 u27 u28 u29 u30 u31 u32 u33 u34 u35 u36 u37 u38 u39 u40 u41 u42 u43 u44 u45 u46 u47 u48 u49 u50 u51 u52 u53 u54 u55 u56 u57 u58 u59 u60 u61 u62 u63 u64 u65 u66 u67 u68 u69 u70 u71 u72 u73 u74 u75 u76 u77 u78 u79 u80 u81 u82 u83 u84 u85 u86 u87 u88 u89 u90 u91 u92 u93 u94 u95 u96 u97 u98 u99 u100 u101 u102 u103 u104 u105 u106 u107 u108 u109 u110 u111 u112 u113 u114 u115 u116 u117 u118 u119 u120 u121 u122 u123 u124 u125 u126 u127 u128 u129 u130 u131 u132 u133 u134 u135 u136 u137 : Value} : Code.wp Try.prog (c9 [true, true, true, true, true, true, true, true, true, true, true, true, true]) (bodyPost Try.prog Try.f92 R) { tmps := #[u0, .pointer (some ⟨M, 0, none⟩), u2, u3, u4, .pointer (some ⟨b5, 0, none⟩), u6, .pointer (some ⟨G, q * 5, none⟩), u8, u9, .int .i64 (keep : Int), u11, u12, .int .i64 cto, u14, u15, u16, u17, u18, u19, u20, u21, u22, u23, u24, u25, u26, u27, u28, u29, u30, u31, u32, u33, u34, u35, u36, u37, u38, u39, u40, u41, u42, u43, u44, u45, u46, u47, u48, u49, u50, u51, u52, u53, u54, u55, u56, u57, u58, u59, u60, u61, u62, u63, u64, u65, u66, u67, u68, u69, u70, u71, u72, u73, u74, u75, u76, u77, u78, u79, u80, u81, u82, u83, u84, u85, u86, u87, u88, u89, u90, u91, u92, u93, u94, u95, u96, u97, u98, u99, u100, u101, u102, u103, u104, u105, u106, u107, u108, u109, u110, u111, u112, u113, u114, u115, u116, u117, u118, u119, u120, u121, u122, u123, u124, u125, u126, u127, u128, u129, u130, u131, u132, u133, u134, u135, u136, u137, undef, undef, undef, undef, undef, undef, undef, undef, undef, undef, undef, undef, undef, undef, undef, undef, undef, undef, undef, undef, undef, undef, undef, undef, undef, undef, undef, undef, undef, undef, undef, undef, undef], defers := [] } w := by
  have hgl := hT.glt
  obtain ⟨gS, cS, hvS⟩ : ∃ gS cS, vS = .slice (some ⟨gS, 0, none⟩) f.stk.length cS := by
    rcases hT.stk with ⟨g, c, hv, _⟩ | ⟨_, hl⟩
    · exact ⟨g, _, hv⟩
    · rw [hl] at hk; simp at hk
  subst hvS
  have hcap := hT.stk.cap
  have hbE : Below w.heap.size w (w.alloc (.cells #[] 57)) := (Below.refl _ _).alloc (Nat.le_refl _) _
  have c3 : (w.alloc (.cells #[] 57)).cell? ⟨G, q * 5 + 3, none⟩ = some (.slice (some ⟨gS, 0, none⟩) f.stk.length cS) := (hT.on hbE).cell (d := 3) (by omega)
  have HT : Hid (Tp B M w m (q + 1) q f G fcap (.slice (some ⟨gS, 0, none⟩) f.stk.length cS) vL vh vs ch cf Th Tf) := hT
  have HI : Hid (Cells w b5 [.int .i64 17, .int .i64 A, .int .i64 Bi]) := hI
  have HN : Hid (GrowV w.heap.size (w.alloc (.cells #[] 57)) (.slice (some ⟨w.heap.size, 0, none⟩) ([] : List Vl).length 0) []) := growV_nil w
  have hdl : (f.stk.drop keep).length = f.stk.length - keep := List.length_drop ..
  have htl : (f.stk.take keep).length = keep := by rw [List.length_take]; omega
  have HS1 : Hid (∀ c', SV true 0 (w.alloc (.cells #[] 57)) (.slice (some ⟨gS, keep * 2, none⟩) (f.stk.drop keep).length c') (f.stk.drop keep)) := fun c' => SV.drop (SV.on hT.stk.sv (Keep.of hbE)) hk
  have HS2 : Hid (∀ X, Below w.heap.size w X → SV true 0 X (.slice (some ⟨gS, 0, none⟩) (f.stk.take keep).length cS) (f.stk.take keep)) := fun X hX => SV.take (SV.on hT.stk.sv (Keep.of hX)) (by omega)
  have hki : (keep : Int) < (f.stk.length : Int) := by omega
  have hkc : (keep : Int) ≤ (cS : Int) := by omega
  have hlc : (f.stk.length : Int) ≤ (cS : Int) := by omega
  have hkl : (keep : Int) ≤ (f.stk.length : Int) := by omega
  have HR : Hid (∀ w', MSt B M w' { m with frames := (m.frames.dropLast ++ [{ f with stk := f.stk.take keep }]) ++ [⟨cto, Bi, 0, [], frmV (f.stk.drop keep)⟩] } → Below B w w' → R (.returned (.int .i64 0)) w') := hR
  have HDL : Hid ((f.stk.drop keep).length = f.stk.length - keep) := hdl
  have HTL : Hid ((f.stk.take keep).length = keep) := htl
  clear hT hI hR hdl htl
  unfold c9
  conv => arg 2; whnf
  go_wp2_with (at_builtin; refine wpList_growV _ rfl (.tmp 138) (.tmp 144) rfl w.heap.size w.heap.size 0 [] rfl HN.out (by simp) (some ⟨gS, keep * 2, none⟩) (cS - keep) 0 (f.stk.drop keep) (by rw [HDL.out]; simp [Act.eval]) (HS1.out _) (by have := HDL.out; simp; omega) ?_)
  intro g1 c1 w1 G1 B1 E1 O1
  have U1 : Below w.heap.size w w1 := hbE.trans B1
  have HG1 : Hid (GrowV w.heap.size w1 (.slice (some ⟨g1, 0, none⟩) (f.stk.drop keep).length c1) (f.stk.drop keep)) := by show GrowV _ _ _ _; rw [HDL.out]; simpa using G1
  have hbE1 : Below w.heap.size w (w1.alloc (.cells #[] 57)) := U1.alloc U1.size _
  have d3 : (w1.alloc (.cells #[] 57)).cell? ⟨G, q * 5 + 3, none⟩ = some (.slice (some ⟨gS, 0, none⟩) f.stk.length cS) := (HT.out.on hbE1).cell (d := 3) (by omega)
  have HN1 : Hid (GrowV w1.heap.size (w1.alloc (.cells #[] 57)) (.slice (some ⟨w1.heap.size, 0, none⟩) ([] : List Vl).length 0) []) := growV_nil w1
  have HS3 : Hid (SV true 0 (w1.alloc (.cells #[] 57)) (.slice (some ⟨gS, 0, none⟩) (f.stk.take keep).length cS) (f.stk.take keep)) := HS2.out _ hbE1
  clear G1 B1 E1 O1 HN HS1 HS2 c3
  go_wp2_with (at_builtin; refine wpList_growV _ rfl (.tmp 147) (.tmp 153) rfl w1.heap.size w1.heap.size 0 [] rfl HN1.out (by simp) (some ⟨gS, 0, none⟩) cS 0 (f.stk.take keep) (by rw [HTL.out]; simp [Act.eval]) HS3.out (by have := HTL.out; simp; omega) ?_)
  intro g2 c2 w2 G2 B2 E2 O2
  have hmin : min keep f.stk.length = keep := by omega
  rw [hmin] at G2 ⊢
  have U12 : Below w1.heap.size w1 w2 := ((Below.refl _ _).alloc (Nat.le_refl _) _).trans B2
  have U2 : Below w.heap.size w w2 := below_over U1 U12
  have G2' : GrowV w1.heap.size w2 (.slice (some ⟨g2, 0, none⟩) (f.stk.take keep).length c2) (f.stk.take keep) := by rw [HTL.out]; exact G2
  obtain ⟨cf', Tf', hT2⟩ := HT.out.setStk hB U2 (G2'.vz.weak fun k hk => ⟨Nat.le_trans U1.size hk.1, hk.2⟩)
  have y3 : w2.cell? ⟨G, q * 5 + 3, none⟩ = some (.slice (some ⟨gS, 0, none⟩) f.stk.length cS) := (HT.out.on U2).cell (d := 3) (by omega)
  have z3 := (HT.out.on U2).frz (q * 5 + 3)
  have hBG : B ≤ G := HT.out.own.low G (.inr (.inl (.inl rfl)))
  have hO : Only G w2 (w2.setCell ⟨G, q * 5 + 3, none⟩ (.slice (some ⟨g2, 0, none⟩) keep c2)) := (Only.refl _ _).set _ _
  have I3 : Hid (Cells (w2.setCell ⟨G, q * 5 + 3, none⟩ (.slice (some ⟨g2, 0, none⟩) keep c2)) b5 [.int .i64 17, .int .i64 A, .int .i64 Bi]) := (HI.out.on U2).onlyM hO hb5
  rw [HTL.out] at hT2
  have HT2 : Hid (Tp B M (w2.setCell ⟨G, q * 5 + 3, none⟩ (.slice (some ⟨g2, 0, none⟩) keep c2)) { m with frames := m.frames.set q { f with stk := f.stk.take keep } } (q + 1) q { f with stk := f.stk.take keep } G fcap (.slice (some ⟨g2, 0, none⟩) keep c2) vL vh vs ch cf' Th Tf') := hT2
  have hb3 : Below B w (w2.setCell ⟨G, q * 5 + 3, none⟩ (.slice (some ⟨g2, 0, none⟩) keep c2)) := (U2.mono hB).setCell hBG _
  have hs3 : B ≤ (w2.setCell ⟨G, q * 5 + 3, none⟩ (.slice (some ⟨g2, 0, none⟩) keep c2)).heap.size := Nat.le_trans hB hb3.size
  have HA3 : Hid (SV true 0 (w2.setCell ⟨G, q * 5 + 3, none⟩ (.slice (some ⟨g2, 0, none⟩) keep c2)) (.slice (some ⟨g1, 0, none⟩) (f.stk.drop keep).length c1) (f.stk.drop keep)) :=
    (((HG1.out.vz).on U12).moved (by simp) (fun k hk _ => hO.block k (by have := hk.1; omega))).sv
  have hdn : (f.stk.drop keep).length ≤ 8 := by have := HDL.out; omega
  clear G2 B2 E2 O2 hT2 G2' HT HI HG1 HN1 HS3 U1 U2 U12 hO d3 hbE hbE1 hki hkc hlc hkl hcap
  go_upto_region 24 with fail
  rw [HDL.out] at HA3 hdn
  generalize w2.setCell ⟨G, q * 5 + 3, none⟩ (.slice (some ⟨g2, 0, none⟩) keep c2) = w3 at *
  clear y3 z3
  obtain ⟨i0, hif, hz0, hz1, hz2⟩ := info_parts infoFrame
  have hD : Below w3.heap.size w3 w3.drew := (Below.refl _ _).drew
  have hlen3 : (m.frames.set q { f with stk := f.stk.take keep }).length = q + 1 := HT2.out.len
  have m1d : w3.drew.cell? ⟨M, 1, none⟩ = some (.slice (some ⟨G, 0, none⟩) (q + 1) fcap) := (HT2.out.on hD).cells.g1.1
  have i2d := (I3.out.on hD).g2.1
  have HCA : Hid (Calls Try.prog 83 #[.int .i64 cto, .int .i64 Bi, .slice (some ⟨g1, 0, none⟩) (f.stk.length - keep) c1] w3.drew fun e w' => ∃ x y, e = .returned (.agg #[.int .i64 cto, .int .i64 Bi, .int .i64 0, .slice none 0 0, .slice x 8 y]) ∧ VZ (fun k => w3.drew.heap.size < k ∧ k < w'.heap.size) w' (.slice x 8 y) (frmV (f.stk.drop keep)) ∧ Below w3.drew.heap.size w3.drew w') := by
    have := l8Frame_at 0 cto Bi ⟨g1, 0, none⟩ c1 (f.stk.drop keep) (by rw [HDL.out]; exact hdn) w3.drew (SV.on (by rw [HDL.out]; exact HA3.out) (Keep.of hD))
    rw [HDL.out] at this
    exact this
  have HM1 : Hid (∀ w4, Below w3.drew.heap.size w3.drew w4 → w4.cell? ⟨M, 1, none⟩ = some (.slice (some ⟨G, 0, none⟩) (q + 1) fcap)) := fun w4 hb4 => (HT2.out.on (below_over hD hb4)).cells.g1.1
  have HM2 : Hid (∀ w4 x y, Below w3.drew.heap.size w3.drew w4 → (w4.alloc (.cells #[.int .i64 cto, .int .i64 Bi, .int .i64 0, .slice none 0 0, .slice x 8 y] 49)).cell? ⟨M, 1, none⟩ = some (.slice (some ⟨G, 0, none⟩) (q + 1) fcap)) := fun w4 x y hb4 => ((HT2.out.on (below_over hD hb4)).on ((Below.refl _ _).alloc (Nat.le_refl _) _)).cells.g1.1
  have HOW : Hid (∀ w4 ob, Below w3.drew.heap.size w3.drew w4 → (w4.alloc ob).ownsRow B 49 5 (.slice (some ⟨G, 0, none⟩) (q + 1) fcap) (q + 1) (recs recF (m.frames.set q { f with stk := f.stk.take keep }) cf').flatten) := fun w4 ob hb4 => by
    have := ownOn (ownOn HT2.out.own.f.own (below_over hD hb4)) ((Below.refl _ _).alloc (Nat.le_refl _) ob)
    rw [hlen3] at this
    exact this
  have HCE : Hid (∀ (w4 : World) (x : Option Addr) (y : Nat) (j : Nat) (u : Value), ([.int .i64 cto, .int .i64 Bi, .int .i64 0, .slice none 0 0, .slice x 8 y] : List Value)[j]? = some u → (w4.alloc (.cells #[.int .i64 cto, .int .i64 Bi, .int .i64 0, .slice none 0 0, .slice x 8 y] 49)).cell? ((⟨w4.heap.size, 0, none⟩ : Addr).add j) = some u) := fun w4 x y j u hu => by
    rw [Go.WideShapes.add_plain, Nat.zero_add]
    exact (Cells.new w4 _ rfl [.int .i64 cto, .int .i64 Bi, .int .i64 0, .slice none 0 0, .slice x 8 y] 49 j u hu).1
  have hone : ∀ (x : Option Addr) (y : Nat) (u : Value), u ∈ ([.int .i64 cto, .int .i64 Bi, .int .i64 0, .slice none 0 0, .slice x 8 y] : List Value) → u.oneCell' = true := by simp [Value.oneCell']
  have h63 : q + 1 + 1 ≤ maxLen := by unfold maxLen; omega
  have hby : (q + 1 + 1) * 72 ≤ 140737488355328 := by omega
  have hn0 : q + 1 + 1 ≠ 0 := by omega
  have HBW : Hid (∀ w4 ob, Below w3.drew.heap.size w3.drew w4 → B ≤ (w4.alloc ob).heap.size) := fun w4 ob hb4 => by
    have h4 := hb4.size; have h5 : w3.drew.heap.size = w3.heap.size := rfl
    rw [World.size_alloc]; omega
  have HST : Hid (∀ w4 ob W', Below w3.drew.heap.size w3.drew w4 → (w4.alloc ob).grownBy W' (Value.slice (some ⟨G, 0, none⟩) (q + 1) fcap).ownBlock → W'.cell? ⟨M, 1, none⟩ = some (.slice (some ⟨G, 0, none⟩) (q + 1) fcap) ∧ W'.frozen? ⟨M, 1, none⟩ = false) := fun w4 ob W' hb4 hW' => by
    have hTT := (HT2.out.on (below_over hD hb4)).on ((Below.refl w4.heap.size w4).alloc (Nat.le_refl _) ob)
    have e := hW'.block M hTT.mlt fun e => HT2.out.gm (by simpa [Value.ownBlock] using e.symm)
    exact ⟨(World.cell?_of_block (w := w4.alloc ob) e).trans hTT.cells.g1.1, (World.frozen?_of_block (w := w4.alloc ob) e).trans hTT.cells.g1.2⟩
  apply meetM
  case h =>
    intro hp
    go_region_law (first
      | (go_simp; go_at_call 83; refine HCA.out.mono ?_; rintro e w4 ⟨x, y, rfl, hV, hb4⟩; have m14 := HM1.out w4 hb4; have m15 := HM2.out w4 x y hb4; dsimp only)
      | (refine stepAppAtM _ rfl (.tmp 161) (.tmp 167) 42 rfl B 49 i0 (.agg #[.int .i64 0, .int .i64 0, .int .i64 0, .slice none 0 0, .slice none 0 0]) 5 72 Try.underlying42 hif hz0 hz1 hz2 rfl (by decide) (.slice (some ⟨G, 0, none⟩) (q + 1) fcap) (q + 1) (recs recF (m.frames.set q { f with stk := f.stk.take keep }) cf').flatten (by simp [Act.eval]) (HOW.out _ _ hb4) ⟨w4.heap.size, 0, none⟩ 1 1 [.int .i64 cto, .int .i64 Bi, .int .i64 0, .slice none 0 0, .slice x 8 y] (by simp [Act.eval]) rfl (HCE.out _ _ _) (hone _ _) h63 hby (HBW.out _ _ hb4) ?_; intro v1 w5 hown1 hgr1 hiff1 hat1; obtain ⟨g3, c3, hv1⟩ := own_form hown1 hn0; subst hv1; clear hiff1; obtain ⟨y2, z2⟩ := HST.out _ _ w5 hb4 hgr1; dsimp only))
    all_goals (clear y2 z2 m14 m15; revert w5 g3 c3 x y w4; exact hp)
  intro w4 x y hV hb4 w5 hgr1 g3 c3 hown1 hat1
  have hX4 : Below w3.heap.size w3 w4 := below_over hD hb4
  have hXD : Below w3.heap.size w3 (w4.alloc (.cells #[.int .i64 cto, .int .i64 Bi, .int .i64 0, .slice none 0 0, .slice x 8 y] 49)) := hX4.alloc hX4.size _
  have hM := HT2.out.more hs3 hXD (w' := w5) (v' := .slice (some ⟨g3, 0, none⟩) (q + 1 + 1) c3) (y := .slice x 8 y) (x := ⟨cto, Bi, 0, [], frmV (f.stk.drop keep)⟩) rfl ((hV.on ((Below.refl _ _).alloc (Nat.le_refl _) _)).weak fun k hk => ⟨by have := hk.1; have h5 : w3.drew.heap.size = w3.heap.size := rfl; omega, by have := hk.2; simp; omega⟩) hown1 hgr1 hat1
  have hBM : B ≤ M := HT2.out.low
  have hBZ : Below B w (w5.setCell ⟨M, 1, none⟩ (.slice (some ⟨g3, 0, none⟩) (q + 1 + 1) c3)) := ((hb3.trans (hXD.mono hs3)).grown hgr1 (HBW.out _ _ hb4) (fun k hk => by simp [Value.ownBlock] at hk; subst hk; exact hBG)).setCell hBM _
  dsimp only at hM
  rw [← withTop_set hq] at hM
  have HF := HR.out _ hM hBZ
  clear hown1 hgr1 hat1 HOW HCE HST HM1 HM2 HCA HBW hM hV
  go_wp2_with fail
  exact HF
end Pg
end Go.Proofs.Ytffkkhaiedhaiaa
