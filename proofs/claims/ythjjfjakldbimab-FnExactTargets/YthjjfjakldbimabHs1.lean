/- Contracts of the other side's lists of those above and below. -/
import Derived.Test.YthjjfjakldbimabHi7
namespace Go.Proofs.Ythjjfjakldbimab
namespace Pg
open Go.ChangeShapes Go.WideShapes Go.ChangeAt Go.RowKit St

set_option maxRecDepth 100000 in
set_option maxHeartbeats 1000000 in
theorem l5Below (B : Nat) (p : Prg) (a : Option Addr) (cap : Nat) (c : Int) (h6 : p.length ≤ 6) (hsup : SupOk p p.length) (w : World) (hp : SK front B w (.slice a p.length cap) p) :
    Calls Try.prog 43 #[.agg #[.slice a p.length cap], .int .i64 c] w fun e w' => ∃ v, e = .returned v ∧ Grow w.heap.size w' v (downL p c) ∧ Below w.heap.size w w' := by
  obtain ⟨i0, hif, hz0, hz1, hz2⟩ := info_parts infoN
  have HP : Hid (SK front B w (.slice a p.length cap) p) := hp
  have HSUP : Hid (SupOk p p.length) := hsup
  clear hp hsup
  obtain ⟨W, hW⟩ : ∃ W, W = w.alloc (.cells #[.slice a p.length cap] 30) := ⟨_, rfl⟩
  have hwW : Below w.heap.size w W := by rw [hW]; exact (Below.refl _ _).alloc (Nat.le_refl _) _
  have P0 : Hid (Cells W w.heap.size [.slice a p.length cap]) := by rw [hW]; exact Cells.new w _ rfl _ _
  have G0 : Hid (Grow W.heap.size (W.alloc (.cells #[] 2)) (.slice (some ⟨W.heap.size, 0, none⟩) 0 0) []) := grow_start W
  have HSZ : Hid (W.heap.size = w.heap.size + 1) := by show _ = _; rw [hW]; simp
  go_enter Try.func43, Try.ntmps43
  go_wp2
  rw [← HSZ.out, ← hW]
  clear hW
  go_loopw [5, 6] (fun y i wr => ∃ (k : Nat) (v0 : Value), k ≤ p.length ∧ i = .int .i64 (k : Int) ∧ v0 = y ∧ Hid (Grow W.heap.size wr v0 (((allC p).take k).filter (fun i => undB p i c))) ∧ Below W.heap.size W wr) (fun _ i _ => p.length - (intOf i).toNat)
  case atStart => exact ⟨0, _, Nat.zero_le _, rfl, rfl, G0.out, (Below.refl _ _).alloc (Nat.le_refl _) _⟩
  case round =>
    clear G0
    obtain ⟨k, v0, hk, rfl, rfl, hg, hb⟩ := hrel
    have hwr : Below w.heap.size w wr := hwW.trans (hb.mono hwW.size)
    obtain ⟨p0, _⟩ := (cells_lowP P0.out hb (by have := HSZ.out; omega)).g0
    obtain ⟨g, cp, rfl⟩ := hg.out.form
    by_cases hlt : k < p.length
    · have hki : (k : Int) < (p.length : Int) := by omega
      have HST : Hid (((allC p).take (k + 1)).filter (fun i => undB p i c) = ((allC p).take k).filter (fun i => undB p i c) ++ (if undB p (k : Int) c then [(k : Int)] else [])) := by
        show _ = _
        rw [allC_take hlt, List.filter_append, filter_one]
      have hlen : (((allC p).take k).filter (fun i => undB p i c)).length ≤ 6 := by
        have h1 := downL_len p c h6
        have h2 := (downL_pre p c k).length_le
        omega
      generalize hl : ((allC p).take k).filter (fun i => undB p i c) = pre at *
      clear hl
      go_wp2_with fail
      refine (l5Under B p a cap (k : Int) c (by omega) hki h6 HSUP.out _ (SK.on HP.out (Keep.of hwr))).mono ?_
      rintro e w1 ⟨rfl, hb1⟩
      have hw1 : Below w.heap.size w w1 := below_over hwr hb1
      have hW1 : Below W.heap.size W w1 := hb.trans (hb1.mono hb.size)
      have HG1 : Hid (Grow W.heap.size w1 (.slice (some ⟨g, 0, none⟩) pre.length cp) pre) := hg.out.on hb1
      clear hb1 hb hwr hg p0
      cases hq : undB p (k : Int) c
      · have HE : Hid (Grow W.heap.size w1 (.slice (some ⟨g, 0, none⟩) pre.length cp) (((allC p).take (k + 1)).filter (fun i => undB p i c))) := by
          rw [HST.out, hq, if_neg (by simp), List.append_nil]; exact HG1.out
        clear HST HG1
        go_wp2
        go_roundw
        case rel => exact ⟨k + 1, _, by omega, by go_num, rfl, HE.out, hW1⟩
        case measure => simp [intOf]; omega
      · have hzr : W.heap.size ≤ w1.heap.size := hW1.size
        go_wp2_with (at_builtin; refine wpList_append_own _ rfl _ _ 26 rfl W.heap.size 2 i0 (.int .i64 0) 1 8 Try.underlying26 hif hz0 hz1 hz2 rfl (by decide) _ _ _ rfl (HG1.out.1.alloc _) ⟨w1.heap.size, 0, none⟩ 1 1 [.int .i64 (k : Int)] rfl rfl (cell_one_new _ _ _) (by simp [Value.oneCell']) (by unfold maxLen; omega) (by omega) (by simp; omega) ?_)
        intro v' w2 hown hgrow hnil
        have hb2 : Below W.heap.size W w2 := (hW1.alloc hW1.size _).grown hgrow (by simp; omega) (fun k hk => by simp [Value.ownBlock] at hk; subst hk; exact (HG1.out.1.lt g rfl).1)
        have HE : Hid (Grow W.heap.size w2 v' (((allC p).take (k + 1)).filter (fun i => undB p i c))) := by
          rw [HST.out, hq]
          exact grow_next hown (fun h => by first | exact hnil h | exact absurd (hnil.1 h).1 (by simp))
        clear hown hgrow hnil HST HG1
        go_wp2
        go_roundw
        case rel => exact ⟨k + 1, v', by omega, by go_num, rfl, HE.out, hb2⟩
        case measure => simp [intOf]; omega
    · have hkk : k = p.length := by omega
      have HG : Hid (Grow w.heap.size wr (.slice (some ⟨g, 0, none⟩) (((allC p).take k).filter (fun i => undB p i c)).length cp) (downL p c)) := by
        rw [← downL_all p c, ← hkk]; exact hg.out.base' (by have := HSZ.out; omega)
      have hki : ¬ (k : Int) < (p.length : Int) := by omega
      clear hg hkk
      go_wp2
      go_ret
      exact ⟨_, rfl, HG.out, hwr⟩
set_option maxHeartbeats 1000000 in
theorem specAboveOf (B : Nat) (p : Prg) (a : Option Addr) (cap : Nat) (t : Int) (hsp : SmallP p) (w : World) (hp : SK front B w (.slice a p.length cap) p) :
    Calls Try.prog 10 #[.agg #[.slice a p.length cap], .int .i64 t] w fun e w' => ∃ v, e = .returned v ∧ Grow w.heap.size w' v (upA p t) ∧ Below w.heap.size w w' := by
  have HSP : Hid (SmallP p) := hsp
  have HP : Hid (SK front B w (.slice a p.length cap) p) := hp
  clear hp hsp
  obtain ⟨W, hW⟩ : ∃ W, W = w.alloc (.cells #[.slice a p.length cap] 30) := ⟨_, rfl⟩
  have hwW : Below w.heap.size w W := by rw [hW]; exact (Below.refl _ _).alloc (Nat.le_refl _) _
  have P0 : Hid (Cells W w.heap.size [.slice a p.length cap]) := by rw [hW]; exact Cells.new w _ rfl _ _
  go_enter Try.func10, Try.ntmps10
  go_wp2_with fail
  rw [← hW]
  clear hW
  refine (l4In B p a cap t HSP.out _ (SK.on HP.out (Keep.of hwW))).mono ?_
  rintro e w1 ⟨rfl, hb1⟩
  have hw1 : Below w.heap.size w w1 := below_over hwW hb1
  obtain ⟨q0, _⟩ := (P0.out.on hb1).g0
  clear hb1 P0
  cases hok : (okP p && inB p t)
  · have HN : Hid (upA p t = []) := by show _ = _; unfold upA; rw [hok]; rfl
    go_wp2
    go_ret
    exact ⟨_, rfl, by rw [HN.out]; exact (grow_start w1).base' hw1.size, hw1.alloc hw1.size _⟩
  · have HN : Hid (upA p t = upL p t) := by show _ = _; unfold upA; rw [hok]; rfl
    obtain ⟨hk, h0, h1⟩ := okIn hok
    have h6 := (okP_len hk).2
    have HSU : Hid (SupOk p p.length) := okP_sup hk
    clear hk hok
    go_wp2_with fail
    refine (l5Above B p a cap t (by omega) h1 h6 HSU.out _ (SK.on HP.out (Keep.of hw1))).mono ?_
    rintro e w3 ⟨v, rfl, hg, hb3⟩
    have hw3 : Below w.heap.size w w3 := below_over hw1 hb3
    have HG : Hid (Grow w.heap.size w3 v (upL p t)) := hg.base' hw1.size
    clear hg hb3 q0
    go_wp2
    go_ret
    exact ⟨_, rfl, by rw [HN.out]; exact HG.out, hw3⟩
set_option maxHeartbeats 1000000 in
theorem specBelowOf (B : Nat) (p : Prg) (a : Option Addr) (cap : Nat) (t : Int) (hsp : SmallP p) (w : World) (hp : SK front B w (.slice a p.length cap) p) :
    Calls Try.prog 24 #[.agg #[.slice a p.length cap], .int .i64 t] w fun e w' => ∃ v, e = .returned v ∧ Grow w.heap.size w' v (downA p t) ∧ Below w.heap.size w w' := by
  have HSP : Hid (SmallP p) := hsp
  have HP : Hid (SK front B w (.slice a p.length cap) p) := hp
  clear hp hsp
  obtain ⟨W, hW⟩ : ∃ W, W = w.alloc (.cells #[.slice a p.length cap] 30) := ⟨_, rfl⟩
  have hwW : Below w.heap.size w W := by rw [hW]; exact (Below.refl _ _).alloc (Nat.le_refl _) _
  have P0 : Hid (Cells W w.heap.size [.slice a p.length cap]) := by rw [hW]; exact Cells.new w _ rfl _ _
  go_enter Try.func24, Try.ntmps24
  go_wp2_with fail
  rw [← hW]
  clear hW
  refine (l4In B p a cap t HSP.out _ (SK.on HP.out (Keep.of hwW))).mono ?_
  rintro e w1 ⟨rfl, hb1⟩
  have hw1 : Below w.heap.size w w1 := below_over hwW hb1
  obtain ⟨q0, _⟩ := (P0.out.on hb1).g0
  clear hb1 P0
  cases hok : (okP p && inB p t)
  · have HN : Hid (downA p t = []) := by show _ = _; unfold downA; rw [hok]; rfl
    go_wp2
    go_ret
    exact ⟨_, rfl, by rw [HN.out]; exact (grow_start w1).base' hw1.size, hw1.alloc hw1.size _⟩
  · have HN : Hid (downA p t = downL p t) := by show _ = _; unfold downA; rw [hok]; rfl
    obtain ⟨hk, h0, h1⟩ := okIn hok
    have h6 := (okP_len hk).2
    have HSU : Hid (SupOk p p.length) := okP_sup hk
    clear hk hok
    go_wp2_with fail
    refine (l5Below B p a cap t h6 HSU.out _ (SK.on HP.out (Keep.of hw1))).mono ?_
    rintro e w3 ⟨v, rfl, hg, hb3⟩
    have hw3 : Below w.heap.size w w3 := below_over hw1 hb3
    have HG : Hid (Grow w.heap.size w3 v (downL p t)) := hg.base' hw1.size
    clear hg hb3 q0
    go_wp2
    go_ret
    exact ⟨_, rfl, by rw [HN.out]; exact HG.out, hw3⟩
end Pg
end Go.Proofs.Ythjjfjakldbimab
