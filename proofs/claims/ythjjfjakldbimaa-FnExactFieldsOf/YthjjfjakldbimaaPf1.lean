/- Contracts of both sides' FieldsOf. -/
import Derived.Test.YthjjfjakldbimaaPr0
namespace Go.Proofs.Ythjjfjakldbimaa
namespace Pg
open Go.ChangeShapes Go.WideShapes Go.ChangeAt Go.RowKit St

theorem fieldsF_split (p : Prg) (t : Int) : fieldsF p t = if okP p && inB p t then fieldsR p 6 t else [] := rfl
theorem Grow.base {B B' : Nat} {w : World} {v : Value} {l : List Int} (h : Grow B w v l) (hB : B' ≤ B) : Grow B' w v l := ⟨ownBase h.1 hB, h.2⟩
theorem grow_nil1 (w : World) (B : Nat) (hB : B ≤ w.heap.size) : Grow B (w.alloc (.cells #[] 2)) (.slice (some ⟨w.heap.size, 0, none⟩) 0 0) [] := by
  refine ⟨ownBase (B := w.heap.size) ?_ hB, by simp⟩
  have h : (w.alloc (.cells #[] 2)).ownsRow w.heap.size 2 1 (.slice (some ⟨w.heap.size, 0, none⟩) 0 0) 0 [] := World.ownsRow_made w #[] 0 (Nat.le_refl _) (by decide) (by simp)
  simpa [nums] using h

set_option maxHeartbeats 1000000 in
theorem implFieldsOf (B : Nat) (p : Prg) (a : Option Addr) (cap : Nat) (t : Int) (hsp : SmallP p) (w : World) (hp : SK front B w (.slice a p.length cap) p) :
    Calls Try.prog 36 #[.agg #[.slice a p.length cap], .int .i64 t] w fun e w' => ∃ v, e = .returned v ∧ Grow w.heap.size w' v (fieldsF p t) ∧ Below w.heap.size w w' := by
  have HSP : Hid (SmallP p) := hsp
  have HP : Hid (SK front B w (.slice a p.length cap) p) := hp
  clear hp hsp
  obtain ⟨W, hW⟩ : ∃ W, W = w.alloc (.cells #[.slice a p.length cap] 26) := ⟨_, rfl⟩
  have hwW : Below w.heap.size w W := by rw [hW]; exact (Below.refl _ _).alloc (Nat.le_refl _) _
  have P0 : Hid (Cells W w.heap.size [.slice a p.length cap]) := by rw [hW]; exact Cells.new w _ rfl _ _
  go_enter Try.func36, Try.ntmps36
  go_wp2_with fail
  rw [← hW]
  clear hW
  refine (isRightClass B p a cap t HSP.out _ (SK.on HP.out (Keep.of hwW))).mono ?_
  rintro e w1 ⟨rfl, hb1⟩
  have hw1 : Below w.heap.size w w1 := below_over hwW hb1
  obtain ⟨q0, _⟩ := (P0.out.on hb1).g0
  clear hb1 P0
  cases hok : (okP p && inB p t)
  · have HN : Hid (fieldsF p t = []) := by show _ = _; rw [fieldsF_split, hok]; rfl
    go_wp2
    go_ret
    exact ⟨_, rfl, by rw [HN.out]; exact grow_nil1 w1 _ hw1.size, hw1.alloc hw1.size _⟩
  · have HN : Hid (fieldsF p t = fieldsR p 6 t) := by show _ = _; rw [fieldsF_split, hok]; rfl
    simp only [Bool.and_eq_true, inB, decide_eq_true_eq] at hok
    obtain ⟨hk, h0, h1⟩ := hok
    obtain ⟨b, o, rfl, _, _⟩ := HP.out.get (k := 0) (by omega)
    have HOK : Hid (okP p = true) := hk
    clear hk
    go_wp2_with fail
    refine (fieldsDownTo B p b o cap HOK.out w HP.out (p.length) t _ (by omega) h1 h1 hw1).mono ?_
    rintro e w3 ⟨v, rfl, hg, hb3⟩
    have hw3 : Below w.heap.size w w3 := below_over hw1 hb3
    have HG : Hid (Grow w.heap.size w3 v (fieldsR p 6 t)) := hg.base hw1.size
    clear hg hb3 q0
    go_wp2
    go_ret
    exact ⟨_, rfl, by rw [HN.out]; exact HG.out, hw3⟩

set_option maxHeartbeats 1000000 in
theorem specFieldsOf (B : Nat) (p : Prg) (a : Option Addr) (cap : Nat) (t : Int) (hsp : SmallP p) (w : World) (hp : SK front B w (.slice a p.length cap) p) :
    Calls Try.prog 35 #[.agg #[.slice a p.length cap], .int .i64 t] w fun e w' => ∃ v, e = .returned v ∧ Grow w.heap.size w' v (fieldsF p t) ∧ Below w.heap.size w w' := by
  have HSP : Hid (SmallP p) := hsp
  have HP : Hid (SK front B w (.slice a p.length cap) p) := hp
  clear hp hsp
  obtain ⟨W, hW⟩ : ∃ W, W = w.alloc (.cells #[.slice a p.length cap] 26) := ⟨_, rfl⟩
  have hwW : Below w.heap.size w W := by rw [hW]; exact (Below.refl _ _).alloc (Nat.le_refl _) _
  have P0 : Hid (Cells W w.heap.size [.slice a p.length cap]) := by rw [hW]; exact Cells.new w _ rfl _ _
  go_enter Try.func35, Try.ntmps35
  go_wp2_with fail
  rw [← hW]
  clear hW
  refine (l4In B p a cap t HSP.out _ (SK.on HP.out (Keep.of hwW))).mono ?_
  rintro e w1 ⟨rfl, hb1⟩
  have hw1 : Below w.heap.size w w1 := below_over hwW hb1
  obtain ⟨q0, _⟩ := (P0.out.on hb1).g0
  clear hb1 P0
  cases hok : (okP p && inB p t)
  · have HN : Hid (fieldsF p t = []) := by show _ = _; rw [fieldsF_split, hok]; rfl
    go_wp2
    go_ret
    exact ⟨_, rfl, by rw [HN.out]; exact grow_nil1 w1 _ hw1.size, hw1.alloc hw1.size _⟩
  · have HN : Hid (fieldsF p t = fieldsR p 6 t) := by show _ = _; rw [fieldsF_split, hok]; rfl
    simp only [Bool.and_eq_true, inB, decide_eq_true_eq] at hok
    obtain ⟨hk, h0, h1⟩ := hok
    obtain ⟨b, o, rfl, _, _⟩ := HP.out.get (k := 0) (by omega)
    have HOK : Hid (okP p = true) := hk
    clear hk
    go_wp2_with fail
    refine (l4Fields B p b o cap HOK.out w HP.out (p.length) t _ (by omega) h1 h1 hw1).mono ?_
    rintro e w3 ⟨v, rfl, hg, hb3⟩
    have hw3 : Below w.heap.size w w3 := below_over hw1 hb3
    have HG : Hid (Grow w.heap.size w3 v (fieldsR p 6 t)) := hg.base hw1.size
    clear hg hb3 q0
    go_wp2
    go_ret
    exact ⟨_, rfl, by rw [HN.out]; exact HG.out, hw3⟩
theorem fieldsF_len (p : Prg) (t : Int) : (fieldsF p t).length ≤ 24 := by
  unfold fieldsF
  split
  · rename_i h
    simp only [Bool.and_eq_true, decide_eq_true_eq] at h
    have hl := (okP_len h.1).2
    exact fieldsR_len (okP_sup h.1) hl (Nat.le_refl _) (okP_four h.1) 6 _ (by omega) h.2.2
  · simp
end Pg
end Go.Proofs.Ythjjfjakldbimaa
