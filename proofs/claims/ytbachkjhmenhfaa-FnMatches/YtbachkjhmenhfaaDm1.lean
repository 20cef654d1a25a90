/- The contract of the draw of a pattern and a text. -/
import Derived.Test.YtbachkjhmenhfaaDm0
import Derived.Deep.RegionLaw
namespace Go.Proofs.Ytbachkjhmenhfaa
namespace Cu
open Go.ChangeShapes Go.WideShapes Go.ChangeAt Go.RowKit St

theorem makeBytes (w : World) (C : Int) (n : Nat) (hC : C = (n : Int)) (hn : n ≤ 1000) :
    ∃ w', (Instr.makeSlice 22 (.int .i64 C) (.int .i64 C)).run Try.prog w = .ok (.slice (some ⟨w.heap.size, 0, none⟩) n n) w' ∧ w'.ownsRow w.heap.size 5 1 (.slice (some ⟨w.heap.size, 0, none⟩) n n) n (u8s (List.replicate n 0)) ∧ Below w.heap.size w w' := by
  obtain ⟨i0, hif, hz0, hz1, hz2⟩ := info_parts infoU8
  obtain ⟨w', hrun, r1, r2⟩ := run_make_full (P := Try.prog) w w.heap.size 22 5 i0 (.int .u8 0) 1 Try.underlying22 hif hz0 hz1 .i64 .i64 n (by rw [hz2]; omega) (by unfold maxLen; omega) (Nat.le_refl _)
  subst hC
  refine ⟨w', hrun, ?_, (Below.refl _ _).grown r2 (Nat.le_refl _) (fun _ h => by simp at h)⟩
  have e : (madeCells (Value.int .u8 0).cells (n * 1)).toList = u8s (List.replicate n 0) := by
    rw [Nat.mul_one, show (madeCells (Value.int .u8 0).cells n).toList = List.replicate n (.int .u8 0) from toList_madeCells_one _ _]
    unfold u8s
    rw [List.map_replicate]; rfl
  rw [← e]
  exact r1
theorem meetR1 {P G : Prop} (h : P → G) (p : P) : G := h p
set_option maxRecDepth 100000 in
set_option maxHeartbeats 2000000 in
theorem drawMatches_at (B : Nat) (w : World) (a : Option Addr) (len cap : Nat) (hB : Bytes B w a len) (hs : B ≤ w.heap.size) :
    Calls Try.prog 10 #[.slice a len cap] w fun e w' => ∃ p t : ByteArray, e = .returned (.tuple #[.string p, .string t]) ∧ p.size ≤ 60 ∧ t.size ≤ 100 ∧ Below w.heap.size w w' := by
  obtain ⟨i0, hif, hz0, hz1, hz2⟩ := info_parts infoU8
  have HB : Hid (Bytes B w a len) := hB
  clear hB
  go_enter Try.func10, Try.ntmps10
  go_wp2_with fail
  refine (new_at B w a len cap HB.out hs).mono ?_
  rintro e w1 ⟨c, rfl, hc, hb1, hcur⟩
  have H1 : Hid (Cur B w1 c a len cap) := hcur
  have hcw : c < w1.heap.size := hcur.2.1
  clear hcur
  go_wp2_with fail
  refine (drawText_at B c w1 _ a len cap ⟨#[97, 98, 63, 42]⟩ 6 (by decide) (by decide) (by omega) (by omega) (At.start H1.out) hcw).mono ?_
  rintro e w2 ⟨p, rfl, hp, h2⟩
  have H2 : Hid (At B w1 w2 c a len cap) := h2
  clear h2 H1
  go_wp2_with fail
  refine (once_at B c w1 _ a len cap _ H2.out).mono ?_
  rintro e w3 ⟨q, rfl, h3⟩
  have H3 : Hid (At B w1 w3 c a len cap) := h3
  clear h3 H2
  cases q
  · go_wp2_with fail
    refine (drawText_at B c w1 _ a len cap ⟨#[97, 98]⟩ 7 (by decide) (by decide) (by omega) (by omega) H3.out hcw).mono ?_
    rintro e w4 ⟨t, rfl, ht, h4⟩
    have hbb : Below w.heap.size w w4 := hb1.trans (h4.1.below hc hb1.size)
    clear H3 h4
    go_wp2
    refine bodyPost_ret (v := .tuple #[.string p, .string t]) (by simp [results, Try.results10, go_sem]) rfl ?_
    exact ⟨_, _, rfl, by omega, by omega, hbb⟩
  · go_wp2_with fail
    go_region_with (go_at_call 38; refine (below_at B c w1 _ a len cap _ ?hx).mono ?_; (case hx => exact ⟨H3.out.1.drew, H3.out.2.drewN 1⟩); rintro e w4 ⟨r, rfl, hr0, _, hr2, _, h4⟩; have hr := hr2 (by omega); obtain ⟨m, rfl⟩ := Int.eq_ofNat_of_zero_le hr0; have hmb : m ≤ 1 := (by omega); obtain ⟨w5, hmk, hown, hb5⟩ := makeBytes w4 (IntKind.i64.wrap (60 + (m : Int))) (60 + m) (by rw [IntKind.wrap_i64]; omega) (by omega); have hcv := conv_own hown (by simp))
    all_goals
      have hbb : Below w.heap.size w w5 := (hb1.trans (h4.1.below hc hb1.size)).trans (hb5.mono (Nat.le_trans hb1.size h4.1.size))
      have hsz : (⟨(List.replicate (60 + m) (0 : UInt8)).toArray⟩ : ByteArray).size ≤ 100 := by simp [ByteArray.size]; omega
      clear hmk hown hcv h4
      go_wp2
      refine bodyPost_ret (v := .tuple #[.string p, .string ⟨(List.replicate (60 + m) (0 : UInt8)).toArray⟩]) (by simp [results, Try.results10, go_sem]) rfl ?_
      exact ⟨_, _, rfl, by omega, hsz, hbb⟩
end Cu
end Go.Proofs.Ytbachkjhmenhfaa
