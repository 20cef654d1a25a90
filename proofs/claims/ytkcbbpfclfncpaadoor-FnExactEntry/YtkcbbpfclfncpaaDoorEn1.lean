/- The contract of the state that a method begins with. -/
import Derived.Test.YtkcbbpfclfncpaaDoorEn0
import Derived.Test.YtkcbbpfclfncpaaDoorIs0
namespace Go.Proofs.YtkcbbpfclfncpaaDoor
namespace Pg
open Go.ChangeShapes Go.WideShapes Go.ChangeAt Go.RowKit St

def slen : Value → Nat
  | .slice _ n _ => n
  | _ => 0
def entF (cls : Int) (args : List Int) : Sta := ([], (cls :: args) ++ List.replicate (7 - args.length) (-3))
theorem ent_len {cls : Int} {args : List Int} (h : args.length ≤ 3) : (entF cls args).2.length = 8 := by simp [entF]; omega
set_option maxRecDepth 100000 in
set_option maxHeartbeats 2000000 in
theorem entry_at (B : Nat) (pa : Option Addr) (n pc : Nat) (cls nm gives : Int) (xa xc : Option Addr) (ya lc yc : Nat) (args : List Int) (h3 : args.length ≤ 3) (w : World) (hs : SI true B w (.slice xa args.length ya) args) :
    Calls Tryd.prog 19 #[.agg #[.slice pa n pc, .int .i64 cls, .int .i64 nm, .slice xa args.length ya, .int .i64 gives, .slice xc lc yc]] w fun e w' => ∃ x1 y1 x2 y2, e = .returned (.agg #[.slice x1 0 y1, .slice x2 8 y2]) ∧ AnsS w.heap.size w' (.slice x1 0 y1) (.slice x2 8 y2) (entF cls args) ∧ Below w.heap.size w w' := by
  obtain ⟨i0, hif, hz0, hz1, hz2⟩ := info_parts infoN
  obtain ⟨W, hW⟩ : ∃ W, W = (w.alloc (.cells #[.slice pa n pc, .int .i64 cls, .int .i64 nm, .slice xa args.length ya, .int .i64 gives, .slice xc lc yc] 49)).alloc (.cells #[.slice none 0 0, .slice none 0 0] 28) := ⟨_, rfl⟩
  have hwW : Below w.heap.size w W := by rw [hW]; exact ((Below.refl _ _).alloc (Nat.le_refl _) _).alloc (by simp) _
  have C0 : Hid (Cells W w.heap.size [.slice pa n pc, .int .i64 cls, .int .i64 nm, .slice xa args.length ya, .int .i64 gives, .slice xc lc yc]) := by rw [hW]; exact (Cells.new w _ rfl _ _).alloc _
  have R0 : Hid (Cells W (w.heap.size + 1) [.slice none 0 0, .slice none 0 0]) := by rw [hW]; exact Cells.new (w.alloc _) _ (by simp) _ _
  have HZ : Hid (W.heap.size = w.heap.size + 1 + 1) := by rw [hW]; show _ = _; simp
  have HGL : Hid (Grow W.heap.size (W.alloc (.cells #[.int .i64 cls] 2)) (.slice (some ⟨W.heap.size, 0, none⟩) 1 1) [cls]) := grow_lit1 W cls
  have HSI : Hid (SI true B (W.alloc (.cells #[.int .i64 cls] 2)) (.slice xa args.length ya) args) := SI.on hs (Keep.of (hwW.alloc hwW.size _))
  have cc : (W.alloc (.cells #[.int .i64 cls] 2)).cell? ⟨w.heap.size, 3, none⟩ = some (.slice xa args.length ya) := ((C0.out.alloc _).g3).1
  have hz : (W.alloc (.cells #[.int .i64 cls] 2)).heap.size = w.heap.size + 1 + 1 + 1 := by simp [HZ.out]
  rw [hW] at HGL HSI cc
  simp only [World.size_alloc] at HGL
  clear hs hz
  have HWE : Hid (W = (w.alloc (.cells #[.slice pa n pc, .int .i64 cls, .int .i64 nm, .slice xa args.length ya, .int .i64 gives, .slice xc lc yc] 49)).alloc (.cells #[.slice none 0 0, .slice none 0 0] 28)) := hW
  clear hW
  go_enter Tryd.func19, Tryd.ntmps19
  go_wp2_with (at_builtin; refine wpList_grow rfl _ _ rfl (w.heap.size + 1 + 1) _ _ rfl HGL.out (by simp) xa ya B args rfl HSI.out (by simp; omega) ?_)
  intro v1 w1 hg1 hk1
  rw [← HWE.out] at hk1
  have hw1 : Below W.heap.size W w1 := ((Below.refl _ _).alloc (Nat.le_refl _) _).trans (by rw [HZ.out]; exact hk1.below)
  have HG1 : Hid (Grow W.heap.size w1 v1 ([cls] ++ args)) := by rw [HZ.out]; exact hg1
  clear hg1 hk1 HGL HSI cc HWE
  go_wp2
  go_loopw [3] (fun v wr => ∃ k : Nat, k ≤ 7 - args.length ∧ Hid (Grow W.heap.size wr v ((cls :: args) ++ List.replicate k (-3))) ∧ Below W.heap.size W wr) (fun v _ => 8 - slen v)
  case atStart => exact ⟨0, by omega, by show Grow _ _ _ _; rw [List.replicate_zero, List.append_nil]; exact HG1.out, hw1⟩
  case round =>
    obtain ⟨k, hk, hg, hb⟩ := hrel
    obtain ⟨g, cap, hv, _⟩ := Grow.gint hg.out
    have hlen : ((cls :: args) ++ List.replicate k (-3)).length = args.length + 1 + k := by simp; omega
    rw [hlen] at hv
    subst hv
    by_cases hlt : k < 7 - args.length
    · have hd : decide (((args.length + 1 + k : Nat) : Int) < 8) = true := by simp; omega
      have HGA : Hid ((wr.alloc (.cells #[.int .i64 (-3)] 2)).ownsRow W.heap.size 2 1 (.slice (some ⟨g, 0, none⟩) (args.length + 1 + k) cap) (args.length + 1 + k) (nums ((cls :: args) ++ List.replicate k (-3)))) := by
        have h := hg.out.1.alloc (.cells #[.int .i64 (-3)] 2)
        rw [hlen] at h
        exact h
      have HBS : Hid (W.heap.size ≤ wr.heap.size) := hb.size
      have HRP : Hid ((cls :: args) ++ List.replicate (k + 1) (-3) = ((cls :: args) ++ List.replicate k (-3)) ++ [-3]) := by show _ = _; rw [List.replicate_succ', List.append_assoc]
      clear hg hlen
      go_wp2_with (at_builtin; refine wpList_append_own _ rfl _ _ 26 rfl W.heap.size 2 i0 (.int .i64 0) 1 8 Tryd.underlying26 hif hz0 hz1 hz2 rfl (by decide) _ _ _ rfl HGA.out ⟨wr.heap.size, 0, none⟩ 1 1 [.int .i64 (-3)] rfl rfl (cell_one_new _ _ _) (by simp [Value.oneCell']) (by unfold maxLen; omega) (by omega) (by have := HBS.out; simp; omega) ?_)
      intro v2 w2 hown hgrow hnil
      have hb2 : Below W.heap.size W w2 := (hb.alloc hb.size _).grown hgrow (by have := HBS.out; simp; omega) (fun j hj => by have := (HGA.out.lt j hj).1; omega)
      have HG2 : Hid (Grow W.heap.size w2 v2 ((cls :: args) ++ List.replicate (k + 1) (-3))) := by
        show Grow _ _ _ _
        rw [HRP.out]
        refine ⟨?_, fun e => ?_⟩
        · have e1 : nums (((cls :: args) ++ List.replicate k (-3)) ++ [-3]) = nums ((cls :: args) ++ List.replicate k (-3)) ++ [.int .i64 (-3)] := by simp [nums]
          have e2 : (((cls :: args) ++ List.replicate k (-3)) ++ [-3]).length = args.length + 1 + k + 1 := by simp; omega
          rw [e1, e2]; exact hown
        · exact hnil e
      have hsl : slen v2 = args.length + 1 + k + 1 := by
        obtain ⟨a3, c3, rfl, _⟩ := own_form hown
        rfl
      clear hown hgrow hnil hb HGA
      go_wp2
      go_roundw
      case rel => exact ⟨k + 1, by omega, HG2, hb2⟩
      case measure => rw [hsl]; simp [slen]; omega
    · have hk7 : args.length + 1 + k = 8 := by omega
      have HE : Hid ((cls :: args) ++ List.replicate k (-3) = (entF cls args).2) := by show _ = (cls :: args) ++ List.replicate (7 - args.length) (-3); congr 2; omega
      have HG8 : Hid (Grow W.heap.size wr (.slice (some ⟨g, 0, none⟩) 8 cap) (entF cls args).2) := by rw [← HE.out, ← hk7]; exact hg.out
      clear hg hlen
      rw [hk7]
      have RA := (R0.out.on hb).alloc (.cells #[] 2)
      obtain ⟨r0, q0⟩ := RA.g0
      obtain ⟨r1, q1⟩ := RA.g1
      have R5 := (RA.s0 (.slice (some ⟨wr.heap.size, 0, none⟩) 0 0)).s1 (.slice (some ⟨g, 0, none⟩) 8 cap)
      obtain ⟨e0, _⟩ := R5.g0
      obtain ⟨e1, _⟩ := R5.g1
      have HE2 : Hid (AnsS w.heap.size (((wr.alloc (.cells #[] 2)).setCell ⟨w.heap.size + 1, 0, none⟩ (.slice (some ⟨wr.heap.size, 0, none⟩) 0 0)).setCell ⟨w.heap.size + 1, 1, none⟩ (.slice (some ⟨g, 0, none⟩) 8 cap)) (.slice (some ⟨wr.heap.size, 0, none⟩) 0 0) (.slice (some ⟨g, 0, none⟩) 8 cap) (entF cls args)) := by
        have hzz := HZ.out
        have hzs := hb.size
        have hgl := HG8.out.1.lt g rfl
        have h8 : Grow w.heap.size (((wr.alloc (.cells #[] 2)).setCell ⟨w.heap.size + 1, 0, none⟩ (.slice (some ⟨wr.heap.size, 0, none⟩) 0 0)).setCell ⟨w.heap.size + 1, 1, none⟩ (.slice (some ⟨g, 0, none⟩) 8 cap)) (.slice (some ⟨g, 0, none⟩) 8 cap) (entF cls args).2 := by
          have hne : (Value.slice (some ⟨g, 0, none⟩) 8 cap).ownBlock ≠ some (w.heap.size + 1) := by simp [Value.ownBlock]; omega
          exact ⟨ownBase (own_off (own_off (HG8.out.1.alloc _) (grown_cell _ ⟨w.heap.size + 1, 0, none⟩ _) hne) (grown_cell _ ⟨w.heap.size + 1, 1, none⟩ _) hne) (by omega), by simp⟩
        refine ⟨.inl ⟨wr.heap.size, 0, rfl, by omega, by simp, by simp, IRow.nil _ _ _, fun i hi => by simp [entF] at hi⟩, h8.gint, .inr (by simp [Value.ownBlock]; omega)⟩
      have HB2 : Hid (Below w.heap.size w (((wr.alloc (.cells #[] 2)).setCell ⟨w.heap.size + 1, 0, none⟩ (.slice (some ⟨wr.heap.size, 0, none⟩) 0 0)).setCell ⟨w.heap.size + 1, 1, none⟩ (.slice (some ⟨g, 0, none⟩) 8 cap))) := (((below_over hwW hb).alloc (Nat.le_trans hwW.size hb.size) _).setCell (p := ⟨w.heap.size + 1, 0, none⟩) (by simp) _).setCell (p := ⟨w.heap.size + 1, 1, none⟩) (by simp) _
      clear R5 RA HG8 HE hb hk7
      go_wp2
      refine bodyPost_ret (v := .agg #[.slice (some ⟨wr.heap.size, 0, none⟩) 0 0, .slice (some ⟨g, 0, none⟩) 8 cap]) (by simp [results, Tryd.results19, go_sem, e0, e1]) rfl ?_
      exact ⟨_, _, _, _, rfl, HE2.out, HB2.out⟩
end Pg
end Go.Proofs.YtkcbbpfclfncpaaDoor
