/- How a machine begins: the specification's frame and Started. -/
import Derived.Test.YtobaeenngffndaaSd3
import Derived.Test.YtobaeenngffndaaPs1
import Derived.Maps.AppendAt
namespace Go.Proofs.Ytobaeenngffndaa
namespace Pg
open Go.ChangeShapes Go.WideShapes Go.ChangeAt Go.RowKit St

def slenC8 : Option Value → Nat
  | some (.slice _ n _) => n
  | _ => 0
set_option maxRecDepth 100000 in
set_option maxHeartbeats 2000000 in
theorem l8Frame_at {f : Bool} (B : Nat) (cls nm : Int) (ad : Addr) (cap : Nat) (l : List Vl) (h8 : l.length ≤ 8) (w : World) (h : SV f B w (.slice (some ad) l.length cap) l) :
    Calls Try.prog 68 #[.int .i64 cls, .int .i64 nm, .slice (some ad) l.length cap] w fun e w' => ∃ x y, e = .returned (.agg #[.int .i64 cls, .int .i64 nm, .int .i64 0, .slice none 0 0, .slice x 8 y]) ∧ VZ (fun k => w.heap.size < k ∧ k < w'.heap.size) w' (.slice x 8 y) (frmV l) ∧ Below w.heap.size w w' := by
  obtain ⟨i0, hif, hz0, hz1, hz2⟩ := info_parts infoValue
  have HN : Hid (∀ x, Below w.heap.size w x → ∀ j u, (flatV l)[j]? = some u → x.cell? (ad.add j) = some u) := fun x hx => SV.flat (SV.on h (Keep.of hx))
  clear h
  obtain ⟨W, hW⟩ : ∃ W, W = w.alloc (.cells #[.int .i64 0, .int .i64 0, .int .i64 0, .slice none 0 0, .slice none 0 0] 59) := ⟨_, rfl⟩
  have hwW : Below w.heap.size w W := by rw [hW]; exact (Below.refl _ _).alloc (Nat.le_refl _) _
  have R0 : Hid (Cells W w.heap.size [.int .i64 0, .int .i64 0, .int .i64 0, .slice none 0 0, .slice none 0 0]) := by rw [hW]; exact Cells.new w _ rfl _ _
  have HZ : Hid (W.heap.size = w.heap.size + 1) := by rw [hW]; show _ = _; simp
  have HOW : Hid ((W.alloc (.cells #[] 79)).ownsRow W.heap.size 79 2 (.slice (some ⟨W.heap.size, 0, none⟩) 0 0) 0 []) := World.ownsRow_made W #[] 0 (Nat.le_refl _) (by decide) (by simp)
  have HWE : Hid (W = w.alloc (.cells #[.int .i64 0, .int .i64 0, .int .i64 0, .slice none 0 0, .slice none 0 0] 59)) := hW
  rw [hW] at HOW
  simp only [World.size_alloc] at HOW
  clear hW
  go_enter Try.func68, Try.ntmps68
  go_wp2_with (at_builtin; refine wpList_append_own _ rfl _ _ 55 rfl (w.heap.size + 1) 79 i0 (.agg #[.int .i64 0, .int .i64 0]) 2 16 Try.underlying55 hif hz0 hz1 hz2 rfl (by decide) _ _ _ rfl HOW.out ad l.length cap (flatV l) rfl (flatV_len l) (HN.out _ (((Below.refl _ _).alloc (Nat.le_refl _) _).alloc (by simp) _)) (flatV_one _) (by unfold maxLen; omega) (by omega) (by simp) ?_)
  intro v1 w1 hown hgrow hnil
  rw [← HWE.out] at hgrow
  have hb1 : Below W.heap.size W w1 := ((Below.refl _ _).alloc (Nat.le_refl _) _).grown hgrow (by simp) (fun g hg => by simp [Value.ownBlock] at hg; have := HZ.out; omega)
  have HG1 : Hid (GrowV W.heap.size w1 v1 l) := by
    refine ⟨?_, fun h => by first | exact hnil h | exact absurd (hnil.1 h).1 (by simp)⟩
    rw [HZ.out]
    simpa using hown
  obtain ⟨g, c, hv1, hgB, hgl⟩ := GrowV.form HG1.out
  subst hv1
  clear hown hgrow hnil HOW HN HWE
  obtain ⟨V, hV⟩ : ∃ V, V = w1.alloc (.cells #[.int .i64 cls, .int .i64 nm, .int .i64 0, .slice none 0 0, .slice (some ⟨g, 0, none⟩) l.length c] 59) := ⟨_, rfl⟩
  have hbV : Below w1.heap.size w1 V := by rw [hV]; exact (Below.refl _ _).alloc (Nat.le_refl _) _
  have FV0 : Hid (Cells V w1.heap.size [.int .i64 cls, .int .i64 nm, .int .i64 0, .slice none 0 0, .slice (some ⟨g, 0, none⟩) l.length c]) := by rw [hV]; exact Cells.new w1 _ rfl _ _
  have RV0 : Hid (Cells V w.heap.size [.int .i64 0, .int .i64 0, .int .i64 0, .slice none 0 0, .slice none 0 0]) := (R0.out.on hb1).on hbV
  have GV0 : Hid (GrowV W.heap.size V (.slice (some ⟨g, 0, none⟩) l.length c) l) := ⟨ownOn HG1.out.1 hbV, by simp⟩
  have hwV : Below w.heap.size w V := below_over (below_over hwW hb1) hbV
  have hzV : w1.heap.size < V.heap.size := cell_lt FV0.out.g0.1
  have HGW : Hid (g < w1.heap.size) := hgl
  have HZ1 : Hid (W.heap.size ≤ w1.heap.size) := hb1.size
  clear hb1 hbV hgB hgl HG1 R0
  go_wp2
  rw [← hV]
  clear hV
  go_loopw [] (fun wr => ∃ (k q cp : Nat), l.length + k ≤ 8 ∧ Hid (GrowV W.heap.size wr (.slice (some ⟨q, 0, none⟩) (l.length + k) cp) (l ++ List.replicate k (1, 0))) ∧ q ≠ w1.heap.size ∧ Hid (Cells wr w1.heap.size [.int .i64 cls, .int .i64 nm, .int .i64 0, .slice none 0 0, .slice (some ⟨q, 0, none⟩) (l.length + k) cp]) ∧ Hid (Cells wr w.heap.size [.int .i64 0, .int .i64 0, .int .i64 0, .slice none 0 0, .slice none 0 0]) ∧ w1.heap.size < wr.heap.size ∧ Hid (Below w.heap.size w wr)) (fun wr => 8 - slenC8 (wr.cell? ⟨w1.heap.size, 4, none⟩))
  case atStart => exact ⟨0, g, c, by omega, by show GrowV _ _ _ _; rw [List.replicate_zero, List.append_nil]; exact GV0.out, by have := HGW.out; omega, FV0.out, RV0.out, hzV, hwV⟩
  case round =>
    obtain ⟨k, q, cp, hk, hg, hqn, hF, hR, hsz, hb⟩ := hrel
    obtain ⟨f4, p4⟩ := hF.out.g4
    by_cases hlt : l.length + k < 8
    · have hd : decide (((l.length + k : Nat) : Int) < 8) = true := by simp; omega
      have HRP : Hid (l ++ List.replicate (k + 1) ((1, 0) : Vl) = (l ++ List.replicate k ((1, 0) : Vl)) ++ [(1, 0)]) := by show _ = _; rw [List.replicate_succ', List.append_assoc]
      have hlen : (l ++ List.replicate k ((1, 0) : Vl)).length = l.length + k := by simp
      have HGA : Hid ((wr.alloc (.cells #[.int .i64 1, .int .i64 0] 79)).ownsRow W.heap.size 79 2 (.slice (some ⟨q, 0, none⟩) (l.length + k) cp) (l.length + k) (flatV (l ++ List.replicate k (1, 0)))) := by
        have h := hg.out.1.alloc (.cells #[.int .i64 1, .int .i64 0] 79)
        rw [hlen] at h
        exact h
      have hba : Below wr.heap.size wr (wr.alloc (.cells #[.int .i64 1, .int .i64 0] 79)) := (Below.refl _ _).alloc (Nat.le_refl _) _
      have HFA : Hid (Cells (wr.alloc (.cells #[.int .i64 1, .int .i64 0] 79)) w1.heap.size [.int .i64 cls, .int .i64 nm, .int .i64 0, .slice none 0 0, .slice (some ⟨q, 0, none⟩) (l.length + k) cp]) := hF.out.on hba
      have HRA : Hid (Cells (wr.alloc (.cells #[.int .i64 1, .int .i64 0] 79)) w.heap.size [.int .i64 0, .int .i64 0, .int .i64 0, .slice none 0 0, .slice none 0 0]) := hR.out.on hba
      have HBA : Hid (Below w.heap.size w (wr.alloc (.cells #[.int .i64 1, .int .i64 0] 79))) := below_over hb.out hba
      have HM0 : Hid (slenC8 (wr.cell? ⟨w1.heap.size, 4, none⟩) = l.length + k) := by show _ = _; rw [f4]; rfl
      have hws : W.heap.size ≤ wr.heap.size := by have := HZ1.out; omega
      clear hba hg hF hR hb hlen
      go_wp2_with (at_builtin; refine wpList_append_own_at _ rfl _ _ 55 rfl W.heap.size 79 i0 (.agg #[.int .i64 0, .int .i64 0]) 2 16 Try.underlying55 hif hz0 hz1 hz2 rfl (by decide) _ _ _ rfl HGA.out ⟨wr.heap.size, 0, none⟩ 1 1 (flatV [(1, 0)]) rfl rfl (lit_two wr (1, 0) _).out (flatV_one _) (by unfold maxLen; omega) (by omega) (by simp; omega) ?_)
      intro v2 w3 hown hgrow hnil hat
      have O3 : Hid (Cells w3 w1.heap.size [.int .i64 cls, .int .i64 nm, .int .i64 0, .slice none 0 0, .slice (some ⟨q, 0, none⟩) (l.length + k) cp]) := HFA.out.grown hgrow (by simp [Value.ownBlock]; omega)
      have R3 : Hid (Cells w3 w.heap.size [.int .i64 0, .int .i64 0, .int .i64 0, .slice none 0 0, .slice none 0 0]) := HRA.out.grown hgrow (own_block_ge HGA.out (by have := HZ.out; omega))
      have B3 : Hid (Below w.heap.size w w3) := HBA.out.grown hgrow HBA.out.size (fun j hj => by have := (HGA.out.lt j hj).1; have := HZ.out; omega)
      have HG2 : GrowV W.heap.size w3 v2 (l ++ List.replicate (k + 1) (1, 0)) := by
        rw [HRP.out]
        refine ⟨?_, fun e => ?_⟩
        · have e2 : ((l ++ List.replicate k ((1, 0) : Vl)) ++ [(1, 0)]).length = l.length + k + 1 := by simp; omega
          rw [flatV_app, e2]; exact hown
        · first | exact hnil e | exact absurd (hnil.1 e).1 (by simp)
      have hl2 : (l ++ List.replicate (k + 1) ((1, 0) : Vl)).length = l.length + (k + 1) := by simp
      obtain ⟨q2, cp2, hv2, _, hq2l⟩ := GrowV.form HG2
      rw [hl2] at hv2
      subst hv2
      have hq2 : q2 ≠ w1.heap.size := by
        rcases hat with e | e
        · simp [Value.ownBlock] at e
          omega
        · simp [Value.ownBlock] at e
          omega
      have hn2 : (Value.slice (some ⟨q2, 0, none⟩) (l.length + (k + 1)) cp2).ownBlock ≠ some w1.heap.size := by simp [Value.ownBlock]; omega
      obtain ⟨o4, z4⟩ := O3.out.g4
      have hz3 : w1.heap.size < w3.heap.size := cell_lt o4
      have HG4 : Hid (GrowV W.heap.size (w3.setCell ⟨w1.heap.size, 4, none⟩ (.slice (some ⟨q2, 0, none⟩) (l.length + (k + 1)) cp2)) (.slice (some ⟨q2, 0, none⟩) (l.length + (k + 1)) cp2) (l ++ List.replicate (k + 1) (1, 0))) := ⟨own_offV HG2.1 (grown_cellV _ ⟨w1.heap.size, 4, none⟩ _) hn2, by simp⟩
      have O4 : Hid (Cells (w3.setCell ⟨w1.heap.size, 4, none⟩ (.slice (some ⟨q2, 0, none⟩) (l.length + (k + 1)) cp2)) w1.heap.size [.int .i64 cls, .int .i64 nm, .int .i64 0, .slice none 0 0, .slice (some ⟨q2, 0, none⟩) (l.length + (k + 1)) cp2]) := O3.out.s4 _
      have R4 : Hid (Cells (w3.setCell ⟨w1.heap.size, 4, none⟩ (.slice (some ⟨q2, 0, none⟩) (l.length + (k + 1)) cp2)) w.heap.size [.int .i64 0, .int .i64 0, .int .i64 0, .slice none 0 0, .slice none 0 0]) := R3.out.far _ _ (by show w1.heap.size ≠ _; have := HZ.out; have := HZ1.out; omega)
      have B4 : Hid (Below w.heap.size w (w3.setCell ⟨w1.heap.size, 4, none⟩ (.slice (some ⟨q2, 0, none⟩) (l.length + (k + 1)) cp2))) := B3.out.setCell (p := ⟨w1.heap.size, 4, none⟩) (by have := HZ.out; have := HZ1.out; show _ ≤ w1.heap.size; omega) _
      have HM4 : Hid (slenC8 ((w3.setCell ⟨w1.heap.size, 4, none⟩ (.slice (some ⟨q2, 0, none⟩) (l.length + (k + 1)) cp2)).cell? ⟨w1.heap.size, 4, none⟩) = l.length + (k + 1)) := by show _ = _; rw [O4.out.g4.1]; rfl
      clear hown hgrow hnil hat HG2 hl2 hq2l hn2 O3 R3 B3 HGA HFA HRA HBA f4 p4
      go_wp2
      go_roundw
      case rel => exact ⟨k + 1, q2, cp2, by omega, HG4.out, hq2, O4.out, R4.out, by simpa using hz3, B4.out⟩
      case measure => rw [HM4.out, HM0.out]; omega
    · have hk8 : l.length + k = 8 := by omega
      have HE : Hid (l ++ List.replicate k ((1, 0) : Vl) = frmV l) := by show _ = l ++ List.replicate (8 - l.length) (1, 0); congr 2; omega
      have HG8 : Hid (GrowV W.heap.size wr (.slice (some ⟨q, 0, none⟩) 8 cp) (frmV l)) := by rw [← HE.out, ← hk8]; exact hg.out
      rw [hk8] at f4
      obtain ⟨f0, _⟩ := hF.out.g0
      obtain ⟨f1, _⟩ := hF.out.g1
      obtain ⟨f2, _⟩ := hF.out.g2
      obtain ⟨f3, _⟩ := hF.out.g3
      obtain ⟨r0, q0⟩ := hR.out.g0
      obtain ⟨r1, q1⟩ := hR.out.g1
      obtain ⟨r2, q2⟩ := hR.out.g2
      obtain ⟨r3, q3⟩ := hR.out.g3
      obtain ⟨r4, q4⟩ := hR.out.g4
      have R5 := (((((hR.out.s0 (.int .i64 cls)).s1 (.int .i64 nm)).s2 (.int .i64 0)).s3 (.slice none 0 0)).s4 (.slice (some ⟨q, 0, none⟩) 8 cp))
      obtain ⟨e0, _⟩ := R5.g0
      obtain ⟨e1, _⟩ := R5.g1
      obtain ⟨e2, _⟩ := R5.g2
      obtain ⟨e3, _⟩ := R5.g3
      obtain ⟨e4, _⟩ := R5.g4
      have HT : Hid (Tch (fun k => k = w.heap.size) wr (((((wr.setCell ⟨w.heap.size, 0, none⟩ (.int .i64 cls)).setCell ⟨w.heap.size, 1, none⟩ (.int .i64 nm)).setCell ⟨w.heap.size, 2, none⟩ (.int .i64 0)).setCell ⟨w.heap.size, 3, none⟩ (.slice none 0 0)).setCell ⟨w.heap.size, 4, none⟩ (.slice (some ⟨q, 0, none⟩) 8 cp))) := (((((Tch.set (S := fun k => k = w.heap.size) wr (p := ⟨w.heap.size, 0, none⟩) rfl (.int .i64 cls)).trans (Tch.set (S := fun k => k = w.heap.size) _ (p := ⟨w.heap.size, 1, none⟩) rfl (.int .i64 nm))).trans (Tch.set (S := fun k => k = w.heap.size) _ (p := ⟨w.heap.size, 2, none⟩) rfl (.int .i64 0))).trans (Tch.set (S := fun k => k = w.heap.size) _ (p := ⟨w.heap.size, 3, none⟩) rfl (.slice none 0 0))).trans (Tch.set (S := fun k => k = w.heap.size) _ (p := ⟨w.heap.size, 4, none⟩) rfl (.slice (some ⟨q, 0, none⟩) 8 cp)))
      have HV : Hid (VZ (fun k => w.heap.size < k ∧ k < wr.heap.size) wr (.slice (some ⟨q, 0, none⟩) 8 cp) (frmV l)) := HG8.out.vz.weak (fun k hk => ⟨by have := HZ.out; omega, hk.2⟩)
      clear R5 HG8 HE hg hF hR hk8
      go_wp2
      refine bodyPost_ret (v := .agg #[.int .i64 cls, .int .i64 nm, .int .i64 0, .slice none 0 0, .slice (some ⟨q, 0, none⟩) 8 cp]) (by simp [results, Try.results68, go_sem, e0, e1, e2, e3, e4]) rfl ?_
      refine ⟨_, _, rfl, ?_, hb.out.trans (HT.out.below (by have := hb.out.size; omega) (fun k hk => by omega))⟩
      exact (HV.out.tch HT.out (fun k hk hk2 => by omega)).weak (fun k hk => ⟨hk.1, by simpa using hk.2⟩)
end Pg
end Go.Proofs.Ytobaeenngffndaa
