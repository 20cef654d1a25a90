/- The contract of the specification's Entry. -/
import Derived.Test.YtkcbbpfclfncpaaDoorEn2
import Derived.Test.YtkcbbpfclfncpaaDoorPc3
namespace Go.Proofs.YtkcbbpfclfncpaaDoor
namespace Pg
open Go.ChangeShapes Go.WideShapes Go.ChangeAt Go.RowKit St

theorem BoxT.cells {W : World} {b : Nat} {t : TypeId} {vs : Array Value} (h : BoxT W b t vs) : Cells W b vs.toList := fun i x hx => by
  refine ⟨h.cell (by rw [← Array.getElem?_toList]; exact hx), ?_⟩
  unfold BoxT at h
  simp [World.frozen?, h]
theorem BoxT.set {W : World} {b : Nat} {t : TypeId} {vs : Array Value} (h : BoxT W b t vs) (i : Nat) (x : Value) {vs' : Array Value} (hv : vs.setIfInBounds i x = vs') : BoxT (W.setCell ⟨b, i, none⟩ x) b t vs' := by
  unfold BoxT at *
  subst hv
  simp only [World.setCell]
  rw [Array.getElem?_modify, if_pos rfl, h]
  rfl
def slenC : Option Value → Nat
  | some (.slice _ n _) => n
  | _ => 0
set_option maxRecDepth 100000 in
set_option maxHeartbeats 2000000 in
theorem l7Entry_at (B : Nat) (cls nm gives : Int) (xa xc : Option Addr) (ya lc yc : Nat) (args : List Int) (h3 : args.length ≤ 3) (w : World) (hs : SI true B w (.slice xa args.length ya) args) :
    Calls Tryd.prog 15 #[.int .i64 cls, .agg #[.int .i64 nm, .slice xa args.length ya, .int .i64 gives, .slice xc lc yc]] w fun e w' => ∃ x1 y1 x2 y2, e = .returned (.agg #[.slice x1 0 y1, .slice x2 8 y2]) ∧ AnsS w.heap.size w' (.slice x1 0 y1) (.slice x2 8 y2) (entF cls args) ∧ Below w.heap.size w w' := by
  obtain ⟨i0, hif, hz0, hz1, hz2⟩ := info_parts infoN
  obtain ⟨W, hW⟩ : ∃ W, W = (w.alloc (.cells #[.int .i64 nm, .slice xa args.length ya, .int .i64 gives, .slice xc lc yc] 43)).alloc (.cells #[.slice none 0 0, .slice none 0 0] 28) := ⟨_, rfl⟩
  have hwW : Below w.heap.size w W := by rw [hW]; exact ((Below.refl _ _).alloc (Nat.le_refl _) _).alloc (by simp) _
  have C0 : Hid (Cells W w.heap.size [.int .i64 nm, .slice xa args.length ya, .int .i64 gives, .slice xc lc yc]) := by rw [hW]; exact (Cells.new w _ rfl _ _).alloc _
  have R0 : Hid (Cells W (w.heap.size + 1) [.slice none 0 0, .slice none 0 0]) := by rw [hW]; exact Cells.new (w.alloc _) _ (by simp) _ _
  have HZ : Hid (W.heap.size = w.heap.size + 1 + 1) := by rw [hW]; show _ = _; simp
  obtain ⟨V, hV⟩ : ∃ V, V = (W.alloc (.cells #[.int .i64 cls] 2)).alloc (.cells #[.slice none 0 0, .slice (some ⟨W.heap.size, 0, none⟩) 1 1] 28) := ⟨_, rfl⟩
  have hWV : Below W.heap.size W V := by rw [hV]; exact ((Below.refl _ _).alloc (Nat.le_refl _) _).alloc (by simp) _
  have S0 : Hid (BoxT V (W.heap.size + 1) 28 #[.slice none 0 0, .slice (some ⟨W.heap.size, 0, none⟩) 1 1]) := by
    have h := BoxT.new (W.alloc (.cells #[.int .i64 cls] 2)) 28 #[.slice none 0 0, .slice (some ⟨W.heap.size, 0, none⟩) 1 1]
    rw [World.size_alloc] at h
    rw [hV]; exact h
  have HGL : Hid (Grow W.heap.size V (.slice (some ⟨W.heap.size, 0, none⟩) 1 1) [cls]) := by rw [hV]; exact ⟨(grow_lit1 W cls).1.alloc _, (grow_lit1 W cls).2⟩
  have HSI : Hid (SI true B V (.slice xa args.length ya) args) := SI.on hs (Keep.of (below_over hwW hWV))
  have cc : V.cell? ⟨w.heap.size, 1, none⟩ = some (.slice xa args.length ya) := ((C0.out.on hWV).g1).1
  have sc : V.cell? ⟨W.heap.size + 1, 1, none⟩ = some (.slice (some ⟨W.heap.size, 0, none⟩) 1 1) := S0.out.cell rfl
  have HVE : Hid (V = (((w.alloc (.cells #[.int .i64 nm, .slice xa args.length ya, .int .i64 gives, .slice xc lc yc] 43)).alloc (.cells #[.slice none 0 0, .slice none 0 0] 28)).alloc (.cells #[.int .i64 cls] 2)).alloc (.cells #[.slice none 0 0, .slice (some ⟨w.heap.size + 1 + 1, 0, none⟩) 1 1] 28)) := by rw [hV, hW]; show _ = _; simp
  clear hs hV hW
  have HHS : Hid (W.heap.size ≤ V.heap.size) := hWV.size
  rw [HZ.out] at sc HGL S0 HHS
  have HGL' := HGL
  have HSI' := HSI
  have HHS' := HHS
  rw [HVE.out] at HGL' HSI' cc sc HHS'
  go_enter Tryd.func15, Tryd.ntmps15
  go_wp2_with (at_builtin; refine wpList_grow rfl _ _ rfl (w.heap.size + 1 + 1) _ _ rfl HGL'.out HHS'.out xa ya B args rfl HSI'.out (by simp; omega) ?_)
  intro v1 w1 hg1 hk1
  rw [← HVE.out] at hk1
  have hw1 : Below W.heap.size W w1 := hWV.trans (by rw [HZ.out]; exact hk1.below)
  have S1 := hk1.box _ _ _ (by decide) S0.out
  have HG1 : Hid (Grow W.heap.size w1 v1 ([cls] ++ args)) := by rw [HZ.out]; exact hg1
  obtain ⟨g1, cap1, hv1, _⟩ := hg1.gint
  have hv1' : v1 = .slice (some ⟨g1, 0, none⟩) (args.length + 1) cap1 := hv1
  clear hv1
  subst hv1'
  have d0 := (S1.cells).g1
  obtain ⟨d1, d2⟩ := d0
  have S2 : Hid (BoxT (w1.setCell ⟨w.heap.size + 1 + 1 + 1, 1, none⟩ (.slice (some ⟨g1, 0, none⟩) (args.length + 1) cap1)) (w.heap.size + 1 + 1 + 1) 28 #[.slice none 0 0, .slice (some ⟨g1, 0, none⟩) (args.length + 1) cap1]) := S1.set 1 _ rfl
  have HG2 : Hid (Grow W.heap.size (w1.setCell ⟨w.heap.size + 1 + 1 + 1, 1, none⟩ (.slice (some ⟨g1, 0, none⟩) (args.length + 1) cap1)) (.slice (some ⟨g1, 0, none⟩) (args.length + 1) cap1) ([cls] ++ args)) := ⟨own_off HG1.out.1 (grown_cell w1 ⟨w.heap.size + 1 + 1 + 1, 1, none⟩ _) (fun e => S1.not_row (by decide) HG1.out.1 e.symm), HG1.out.2⟩
  have HB2 : Hid (Below W.heap.size W (w1.setCell ⟨w.heap.size + 1 + 1 + 1, 1, none⟩ (.slice (some ⟨g1, 0, none⟩) (args.length + 1) cap1))) := hw1.setCell (p := ⟨w.heap.size + 1 + 1 + 1, 1, none⟩) (by rw [HZ.out]; simp) _
  clear hk1 HGL HGL' HSI HSI' cc sc S0 S1 HG1 hg1 hw1 HHS HHS' HVE
  go_wp2
  clear d1 d2
  go_loopw [] (fun wr => ∃ (k g cap : Nat), k ≤ 7 - args.length ∧ Hid (BoxT wr (w.heap.size + 1 + 1 + 1) 28 #[.slice none 0 0, .slice (some ⟨g, 0, none⟩) (args.length + 1 + k) cap]) ∧ Hid (Grow W.heap.size wr (.slice (some ⟨g, 0, none⟩) (args.length + 1 + k) cap) ((cls :: args) ++ List.replicate k (-3))) ∧ Below W.heap.size W wr) (fun wr => 8 - slenC (wr.cell? ⟨w.heap.size + 1 + 1 + 1, 1, none⟩))
  case atStart =>
    refine ⟨0, g1, cap1, by omega, ?_, ?_, HB2.out⟩
    · exact S2
    · rw [List.replicate_zero, List.append_nil]; exact HG2
  case round =>
    clear S2 HG2 HB2
    obtain ⟨k, g, cap, hk, hbx, hg, hb⟩ := hrel
    have d0 := (hbx.out.cells).g1
    obtain ⟨d1, d2⟩ := d0
    have hm0 : slenC (wr.cell? ⟨w.heap.size + 1 + 1 + 1, 1, none⟩) = args.length + 1 + k := by rw [d1]; rfl
    by_cases hlt : k < 7 - args.length
    · have hd : decide (((args.length + 1 + k : Nat) : Int) < 8) = true := by simp; omega
      have HGA : Hid (Grow W.heap.size (wr.alloc (.cells #[.int .i64 (-3)] 2)) (.slice (some ⟨g, 0, none⟩) (args.length + 1 + k) cap) ((cls :: args) ++ List.replicate k (-3))) := ⟨hg.out.1.alloc _, hg.out.2⟩
      have HLT : Hid (SI true wr.heap.size (wr.alloc (.cells #[.int .i64 (-3)] 2)) (.slice (some ⟨wr.heap.size, 0, none⟩) 1 1) [-3]) := (grow_lit1 wr (-3)).gint.si
      have HBS : Hid (W.heap.size ≤ wr.heap.size) := hb.size
      have HBX : Hid (BoxT (wr.alloc (.cells #[.int .i64 (-3)] 2)) (w.heap.size + 1 + 1 + 1) 28 #[.slice none 0 0, .slice (some ⟨g, 0, none⟩) (args.length + 1 + k) cap]) := hbx.out.on ((Below.refl _ _).alloc (Nat.le_refl _) _)
      have HRP : Hid ((cls :: args) ++ List.replicate (k + 1) (-3) = cls :: (args ++ (List.replicate k (-3) ++ [-3]))) := by show _ = _; rw [List.replicate_succ']; rfl
      have hlen : Hid (((cls :: args) ++ List.replicate k (-3)).length ≤ 900) := by show _ ≤ _; simp; omega
      clear hg hbx
      go_wp2_with (at_builtin; refine wpList_grow rfl _ _ rfl W.heap.size _ _ rfl HGA.out (by have := HBS.out; simp; omega) (some ⟨wr.heap.size, 0, none⟩) 1 wr.heap.size [-3] rfl HLT.out (by have := hlen.out; simp at this ⊢; omega) ?_)
      intro v3 w3 hg3' hk3
      have hg3 : Grow W.heap.size w3 v3 ((cls :: args) ++ List.replicate (k + 1) (-3)) := by rw [HRP.out]; first | exact hg3' | (rw [HZ.out]; exact hg3')
      clear hg3'
      have hb3 : Below W.heap.size W w3 := (hb.alloc hb.size _).trans (by first | exact hk3.below | (rw [HZ.out]; exact hk3.below))
      have S3 := hk3.box _ _ _ (by decide) HBX.out
      obtain ⟨g3, cap3, hv3, _⟩ := hg3.gint
      have hl3 : ((cls :: args) ++ List.replicate (k + 1) (-3)).length = args.length + 1 + (k + 1) := by simp; omega
      rw [hl3] at hv3
      subst hv3
      obtain ⟨f1, f2⟩ := (S3.cells).g1
      have S4 : Hid (BoxT (w3.setCell ⟨w.heap.size + 1 + 1 + 1, 1, none⟩ (.slice (some ⟨g3, 0, none⟩) (args.length + 1 + (k + 1)) cap3)) (w.heap.size + 1 + 1 + 1) 28 #[.slice none 0 0, .slice (some ⟨g3, 0, none⟩) (args.length + 1 + (k + 1)) cap3]) := S3.set 1 _ rfl
      have HG4 : Hid (Grow W.heap.size (w3.setCell ⟨w.heap.size + 1 + 1 + 1, 1, none⟩ (.slice (some ⟨g3, 0, none⟩) (args.length + 1 + (k + 1)) cap3)) (.slice (some ⟨g3, 0, none⟩) (args.length + 1 + (k + 1)) cap3) ((cls :: args) ++ List.replicate (k + 1) (-3))) := ⟨own_off hg3.1 (grown_cell w3 ⟨w.heap.size + 1 + 1 + 1, 1, none⟩ _) (fun e => S3.not_row (by decide) hg3.1 e.symm), hg3.2⟩
      have HB4 : Hid (Below W.heap.size W (w3.setCell ⟨w.heap.size + 1 + 1 + 1, 1, none⟩ (.slice (some ⟨g3, 0, none⟩) (args.length + 1 + (k + 1)) cap3))) := hb3.setCell (p := ⟨w.heap.size + 1 + 1 + 1, 1, none⟩) (by rw [HZ.out]; simp) _
      clear hg3 hk3 hb3 S3 HGA HBX HLT hb
      go_wp2
      go_roundw
      case rel => exact ⟨k + 1, g3, cap3, by omega, S4, HG4, HB4.out⟩
      case measure =>
        rw [hm0, ((S4.out.cells).g1).1]
        simp [slenC]; omega
    · have hk7 : args.length + 1 + k = 8 := by omega
      have HE : Hid ((cls :: args) ++ List.replicate k (-3) = (entF cls args).2) := by show _ = (cls :: args) ++ List.replicate (7 - args.length) (-3); congr 2; omega
      have HG8 : Hid (Grow W.heap.size wr (.slice (some ⟨g, 0, none⟩) 8 cap) (entF cls args).2) := by rw [← HE.out, ← hk7]; exact hg.out
      rw [hk7] at d1 hbx
      obtain ⟨d00, _⟩ := (hbx.out.cells).g0
      clear hg hm0
      have RA := R0.out.on hb
      obtain ⟨r0, q0⟩ := RA.g0
      obtain ⟨r1, q1⟩ := RA.g1
      have R5 := (RA.s0 (.slice none 0 0)).s1 (.slice (some ⟨g, 0, none⟩) 8 cap)
      obtain ⟨e0, _⟩ := R5.g0
      obtain ⟨e1, _⟩ := R5.g1
      have HE2 : Hid (AnsS w.heap.size ((wr.setCell ⟨w.heap.size + 1, 0, none⟩ (.slice none 0 0)).setCell ⟨w.heap.size + 1, 1, none⟩ (.slice (some ⟨g, 0, none⟩) 8 cap)) (.slice none 0 0) (.slice (some ⟨g, 0, none⟩) 8 cap) (entF cls args)) := by
        have hzz := HZ.out
        have hgl := HG8.out.1.lt g rfl
        have h8 : Grow w.heap.size ((wr.setCell ⟨w.heap.size + 1, 0, none⟩ (.slice none 0 0)).setCell ⟨w.heap.size + 1, 1, none⟩ (.slice (some ⟨g, 0, none⟩) 8 cap)) (.slice (some ⟨g, 0, none⟩) 8 cap) (entF cls args).2 := by
          have hne : (Value.slice (some ⟨g, 0, none⟩) 8 cap).ownBlock ≠ some (w.heap.size + 1) := by simp [Value.ownBlock]; omega
          exact ⟨ownBase (own_off (own_off HG8.out.1 (grown_cell _ ⟨w.heap.size + 1, 0, none⟩ _) hne) (grown_cell _ ⟨w.heap.size + 1, 1, none⟩ _) hne) (by omega), by simp⟩
        exact ⟨.inr ⟨rfl, rfl⟩, h8.gint, .inl rfl⟩
      have HB2 : Hid (Below w.heap.size w ((wr.setCell ⟨w.heap.size + 1, 0, none⟩ (.slice none 0 0)).setCell ⟨w.heap.size + 1, 1, none⟩ (.slice (some ⟨g, 0, none⟩) 8 cap))) := ((below_over hwW hb).setCell (p := ⟨w.heap.size + 1, 0, none⟩) (by simp) _).setCell (p := ⟨w.heap.size + 1, 1, none⟩) (by simp) _
      clear R5 RA HG8 HE hb hk7 hbx
      go_wp2
      refine bodyPost_ret (v := .agg #[.slice none 0 0, .slice (some ⟨g, 0, none⟩) 8 cap]) (by simp [results, Tryd.results15, go_sem, e0, e1]) rfl ?_
      exact ⟨_, _, _, _, rfl, HE2.out, HB2.out⟩
end Pg
end Go.Proofs.YtkcbbpfclfncpaaDoor
