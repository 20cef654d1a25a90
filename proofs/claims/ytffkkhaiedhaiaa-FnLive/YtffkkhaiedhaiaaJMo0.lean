/- How a machine begins: the specification's frame and Started. -/
import Derived.Test.YtffkkhaiedhaiaaJSd3
import Derived.Test.YtffkkhaiedhaiaaJPs1
import Derived.Maps.AppendAt
import Derived.Test.YtffkkhaiedhaiaaJMz1
import Derived.Laws.OwnMore
namespace Go.Proofs.Ytffkkhaiedhaiaa
namespace Pg
open Go.ChangeShapes Go.WideShapes Go.ChangeAt Go.RowKit St

def slenC8 : Option Value → Nat
  | some (.slice _ n _) => n
  | _ => 0
set_option maxRecDepth 100000 in
set_option maxHeartbeats 2000000 in
theorem l8Frame_at {f : Bool} (B : Nat) (cls nm : Int) (ad : Addr) (cap : Nat) (l : List Vl) (h8 : l.length ≤ 8) (w : World) (h : SV f B w (.slice (some ad) l.length cap) l) :
    Calls Try.prog 83 #[.int .i64 cls, .int .i64 nm, .slice (some ad) l.length cap] w fun e w' => ∃ x y, e = .returned (.agg #[.int .i64 cls, .int .i64 nm, .int .i64 0, .slice none 0 0, .slice x 8 y]) ∧ VZ (fun k => w.heap.size < k ∧ k < w'.heap.size) w' (.slice x 8 y) (frmV l) ∧ Below w.heap.size w w' := by
  obtain ⟨i0, hif, hz0, hz1, hz2⟩ := info_parts infoValue
  have HN : Hid (∀ x, Below w.heap.size w x → ∀ j u, (flatV l)[j]? = some u → x.cell? (ad.add j) = some u) := fun x hx => SV.flat (SV.on h (Keep.of hx))
  clear h
  obtain ⟨W, hW⟩ : ∃ W, W = w.alloc (.cells #[.int .i64 0, .int .i64 0, .int .i64 0, .slice none 0 0, .slice none 0 0] 49) := ⟨_, rfl⟩
  have hwW : Below w.heap.size w W := by rw [hW]; exact (Below.refl _ _).alloc (Nat.le_refl _) _
  have R0 : Hid (Cells W w.heap.size [.int .i64 0, .int .i64 0, .int .i64 0, .slice none 0 0, .slice none 0 0]) := by rw [hW]; exact Cells.new w _ rfl _ _
  have HZ : Hid (W.heap.size = w.heap.size + 1) := by rw [hW]; show _ = _; simp
  have HOW : Hid ((W.alloc (.cells #[] 57)).ownsRow W.heap.size 57 2 (.slice (some ⟨W.heap.size, 0, none⟩) 0 0) 0 []) := World.ownsRow_made W #[] 0 (Nat.le_refl _) (by decide) (by simp)
  have HWE : Hid (W = w.alloc (.cells #[.int .i64 0, .int .i64 0, .int .i64 0, .slice none 0 0, .slice none 0 0] 49)) := hW
  rw [hW] at HOW
  simp only [World.size_alloc] at HOW
  clear hW
  go_enter Try.func83, Try.ntmps83
  go_wp2_with (at_builtin; refine wpList_append_own _ rfl _ _ 47 rfl (w.heap.size + 1) 57 i0 (.agg #[.int .i64 0, .int .i64 0]) 2 16 Try.underlying47 hif hz0 hz1 hz2 rfl (by decide) _ _ _ rfl HOW.out ad l.length cap (flatV l) rfl (flatV_len l) (HN.out _ (((Below.refl _ _).alloc (Nat.le_refl _) _).alloc (by simp) _)) (flatV_one _) (by unfold maxLen; omega) (by omega) (by simp) ?_)
  intro v1 w1 hown hgrow hnil
  rw [← HWE.out] at hgrow
  have hb1 : Below W.heap.size W w1 := ((Below.refl _ _).alloc (Nat.le_refl _) _).grown hgrow (by simp) (fun g hg => by simp [Value.ownBlock] at hg; have := HZ.out; omega)
  have HG1 : Hid (GrowV W.heap.size w1 v1 l) := by
    refine ⟨?_, fun h => by first | exact hnil h | exact absurd (hnil.1 h).1 (by simp)⟩
    rw [HZ.out]
    simpa using hown
  obtain ⟨g, c, hv1, hgB, hgl⟩ := GrowV.form HG1.out
  subst hv1
  clear hown hgrow hnil HOW HN HWE
  obtain ⟨V, hV⟩ : ∃ V, V = w1.alloc (.cells #[.int .i64 cls, .int .i64 nm, .int .i64 0, .slice none 0 0, .slice (some ⟨g, 0, none⟩) l.length c] 49) := ⟨_, rfl⟩
  have hbV : Below w1.heap.size w1 V := by rw [hV]; exact (Below.refl _ _).alloc (Nat.le_refl _) _
  have FV0 : Hid (Cells V w1.heap.size [.int .i64 cls, .int .i64 nm, .int .i64 0, .slice none 0 0, .slice (some ⟨g, 0, none⟩) l.length c]) := by rw [hV]; exact Cells.new w1 _ rfl _ _
  have RV0 : Hid (Cells V w.heap.size [.int .i64 0, .int .i64 0, .int .i64 0, .slice none 0 0, .slice none 0 0]) := (R0.out.on hb1).on hbV
  have GV0 : Hid (GrowV W.heap.size V (.slice (some ⟨g, 0, none⟩) l.length c) l) := ⟨ownOn HG1.out.1 hbV, by simp⟩
  have hwV : Below w.heap.size w V := below_over (below_over hwW hb1) hbV
  have hzV : w1.heap.size < V.heap.size := cell_lt FV0.out.g0.1
  have HGW : Hid (g < w1.heap.size) := hgl
  have HZ1 : Hid (W.heap.size ≤ w1.heap.size) := hb1.size
  clear hb1 hbV hgB hgl HG1 R0
  go_wp2
  rw [← hV]
  clear hV
  go_loopw [] (fun wr => ∃ (k q cp : Nat), l.length + k ≤ 8 ∧ Hid (GrowV W.heap.size wr (.slice (some ⟨q, 0, none⟩) (l.length + k) cp) (l ++ List.replicate k (1, 0))) ∧ q ≠ w1.heap.size ∧ Hid (Cells wr w1.heap.size [.int .i64 cls, .int .i64 nm, .int .i64 0, .slice none 0 0, .slice (some ⟨q, 0, none⟩) (l.length + k) cp]) ∧ Hid (Cells wr w.heap.size [.int .i64 0, .int .i64 0, .int .i64 0, .slice none 0 0, .slice none 0 0]) ∧ w1.heap.size < wr.heap.size ∧ Hid (Below w.heap.size w wr)) (fun wr => 8 - slenC8 (wr.cell? ⟨w1.heap.size, 4, none⟩))
  case atStart => exact ⟨0, g, c, by omega, by show GrowV _ _ _ _; rw [List.replicate_zero, List.append_nil]; exact GV0.out, by have := HGW.out; omega, FV0.out, RV0.out, hzV, hwV⟩
  case round =>
    obtain ⟨k, q, cp, hk, hg, hqn, hF, hR, hsz, hb⟩ := hrel
    obtain ⟨f4, p4⟩ := hF.out.g4
    by_cases hlt : l.length + k < 8
    · have hd : decide (((l.length + k : Nat) : Int) < 8) = true := by simp; omega
      have HRP : Hid (l ++ List.replicate (k + 1) ((1, 0) : Vl) = (l ++ List.replicate k ((1, 0) : Vl)) ++ [(1, 0)]) := by show _ = _; rw [List.replicate_succ', List.append_assoc]
      have hlen : (l ++ List.replicate k ((1, 0) : Vl)).length = l.length + k := by simp
      have HGA : Hid ((wr.alloc (.cells #[.int .i64 1, .int .i64 0] 57)).ownsRow W.heap.size 57 2 (.slice (some ⟨q, 0, none⟩) (l.length + k) cp) (l.length + k) (flatV (l ++ List.replicate k (1, 0)))) := by
        have h := hg.out.1.alloc (.cells #[.int .i64 1, .int .i64 0] 57)
        rw [hlen] at h
        exact h
      have hba : Below wr.heap.size wr (wr.alloc (.cells #[.int .i64 1, .int .i64 0] 57)) := (Below.refl _ _).alloc (Nat.le_refl _) _
      have HFA : Hid (Cells (wr.alloc (.cells #[.int .i64 1, .int .i64 0] 57)) w1.heap.size [.int .i64 cls, .int .i64 nm, .int .i64 0, .slice none 0 0, .slice (some ⟨q, 0, none⟩) (l.length + k) cp]) := hF.out.on hba
      have HRA : Hid (Cells (wr.alloc (.cells #[.int .i64 1, .int .i64 0] 57)) w.heap.size [.int .i64 0, .int .i64 0, .int .i64 0, .slice none 0 0, .slice none 0 0]) := hR.out.on hba
      have HBA : Hid (Below w.heap.size w (wr.alloc (.cells #[.int .i64 1, .int .i64 0] 57))) := below_over hb.out hba
      have HM0 : Hid (slenC8 (wr.cell? ⟨w1.heap.size, 4, none⟩) = l.length + k) := by show _ = _; rw [f4]; rfl
      have hws : W.heap.size ≤ wr.heap.size := by have := HZ1.out; omega
      clear hba hg hF hR hb hlen
      go_wp2_with (at_builtin; refine wpList_append_own_at _ rfl _ _ 47 rfl W.heap.size 57 i0 (.agg #[.int .i64 0, .int .i64 0]) 2 16 Try.underlying47 hif hz0 hz1 hz2 rfl (by decide) _ _ _ rfl HGA.out ⟨wr.heap.size, 0, none⟩ 1 1 (flatV [(1, 0)]) rfl rfl (lit_two wr (1, 0) _).out (flatV_one _) (by unfold maxLen; omega) (by omega) (by simp; omega) ?_)
      intro v2 w3 hown hgrow hnil hat
      have O3 : Hid (Cells w3 w1.heap.size [.int .i64 cls, .int .i64 nm, .int .i64 0, .slice none 0 0, .slice (some ⟨q, 0, none⟩) (l.length + k) cp]) := HFA.out.grown hgrow (by simp [Value.ownBlock]; omega)
      have R3 : Hid (Cells w3 w.heap.size [.int .i64 0, .int .i64 0, .int .i64 0, .slice none 0 0, .slice none 0 0]) := HRA.out.grown hgrow (own_block_ge HGA.out (by have := HZ.out; omega))
      have B3 : Hid (Below w.heap.size w w3) := HBA.out.grown hgrow HBA.out.size (fun j hj => by have := (HGA.out.lt j hj).1; have := HZ.out; omega)
      have HG2 : GrowV W.heap.size w3 v2 (l ++ List.replicate (k + 1) (1, 0)) := by
        rw [HRP.out]
        refine ⟨?_, fun e => ?_⟩
        · have e2 : ((l ++ List.replicate k ((1, 0) : Vl)) ++ [(1, 0)]).length = l.length + k + 1 := by simp; omega
          rw [flatV_app, e2]; exact hown
        · first | exact hnil e | exact absurd (hnil.1 e).1 (by simp)
      have hl2 : (l ++ List.replicate (k + 1) ((1, 0) : Vl)).length = l.length + (k + 1) := by simp
      obtain ⟨q2, cp2, hv2, _, hq2l⟩ := GrowV.form HG2
      rw [hl2] at hv2
      subst hv2
      have hq2 : q2 ≠ w1.heap.size := by
        rcases hat with e | e
        · simp [Value.ownBlock] at e
          omega
        · simp [Value.ownBlock] at e
          omega
      have hn2 : (Value.slice (some ⟨q2, 0, none⟩) (l.length + (k + 1)) cp2).ownBlock ≠ some w1.heap.size := by simp [Value.ownBlock]; omega
      obtain ⟨o4, z4⟩ := O3.out.g4
      have hz3 : w1.heap.size < w3.heap.size := cell_lt o4
      have HG4 : Hid (GrowV W.heap.size (w3.setCell ⟨w1.heap.size, 4, none⟩ (.slice (some ⟨q2, 0, none⟩) (l.length + (k + 1)) cp2)) (.slice (some ⟨q2, 0, none⟩) (l.length + (k + 1)) cp2) (l ++ List.replicate (k + 1) (1, 0))) := ⟨own_offV HG2.1 (grown_cellV _ ⟨w1.heap.size, 4, none⟩ _) hn2, by simp⟩
      have O4 : Hid (Cells (w3.setCell ⟨w1.heap.size, 4, none⟩ (.slice (some ⟨q2, 0, none⟩) (l.length + (k + 1)) cp2)) w1.heap.size [.int .i64 cls, .int .i64 nm, .int .i64 0, .slice none 0 0, .slice (some ⟨q2, 0, none⟩) (l.length + (k + 1)) cp2]) := O3.out.s4 _
      have R4 : Hid (Cells (w3.setCell ⟨w1.heap.size, 4, none⟩ (.slice (some ⟨q2, 0, none⟩) (l.length + (k + 1)) cp2)) w.heap.size [.int .i64 0, .int .i64 0, .int .i64 0, .slice none 0 0, .slice none 0 0]) := R3.out.far _ _ (by show w1.heap.size ≠ _; have := HZ.out; have := HZ1.out; omega)
      have B4 : Hid (Below w.heap.size w (w3.setCell ⟨w1.heap.size, 4, none⟩ (.slice (some ⟨q2, 0, none⟩) (l.length + (k + 1)) cp2))) := B3.out.setCell (p := ⟨w1.heap.size, 4, none⟩) (by have := HZ.out; have := HZ1.out; show _ ≤ w1.heap.size; omega) _
      have HM4 : Hid (slenC8 ((w3.setCell ⟨w1.heap.size, 4, none⟩ (.slice (some ⟨q2, 0, none⟩) (l.length + (k + 1)) cp2)).cell? ⟨w1.heap.size, 4, none⟩) = l.length + (k + 1)) := by show _ = _; rw [O4.out.g4.1]; rfl
      clear hown hgrow hnil hat HG2 hl2 hq2l hn2 O3 R3 B3 HGA HFA HRA HBA f4 p4
      go_wp2
      go_roundw
      case rel => exact ⟨k + 1, q2, cp2, by omega, HG4.out, hq2, O4.out, R4.out, by simpa using hz3, B4.out⟩
      case measure => rw [HM4.out, HM0.out]; omega
    · have hk8 : l.length + k = 8 := by omega
      have HE : Hid (l ++ List.replicate k ((1, 0) : Vl) = frmV l) := by show _ = l ++ List.replicate (8 - l.length) (1, 0); congr 2; omega
      have HG8 : Hid (GrowV W.heap.size wr (.slice (some ⟨q, 0, none⟩) 8 cp) (frmV l)) := by rw [← HE.out, ← hk8]; exact hg.out
      rw [hk8] at f4
      obtain ⟨f0, _⟩ := hF.out.g0
      obtain ⟨f1, _⟩ := hF.out.g1
      obtain ⟨f2, _⟩ := hF.out.g2
      obtain ⟨f3, _⟩ := hF.out.g3
      obtain ⟨r0, q0⟩ := hR.out.g0
      obtain ⟨r1, q1⟩ := hR.out.g1
      obtain ⟨r2, q2⟩ := hR.out.g2
      obtain ⟨r3, q3⟩ := hR.out.g3
      obtain ⟨r4, q4⟩ := hR.out.g4
      have R5 := (((((hR.out.s0 (.int .i64 cls)).s1 (.int .i64 nm)).s2 (.int .i64 0)).s3 (.slice none 0 0)).s4 (.slice (some ⟨q, 0, none⟩) 8 cp))
      obtain ⟨e0, _⟩ := R5.g0
      obtain ⟨e1, _⟩ := R5.g1
      obtain ⟨e2, _⟩ := R5.g2
      obtain ⟨e3, _⟩ := R5.g3
      obtain ⟨e4, _⟩ := R5.g4
      have HT : Hid (Tch (fun k => k = w.heap.size) wr (((((wr.setCell ⟨w.heap.size, 0, none⟩ (.int .i64 cls)).setCell ⟨w.heap.size, 1, none⟩ (.int .i64 nm)).setCell ⟨w.heap.size, 2, none⟩ (.int .i64 0)).setCell ⟨w.heap.size, 3, none⟩ (.slice none 0 0)).setCell ⟨w.heap.size, 4, none⟩ (.slice (some ⟨q, 0, none⟩) 8 cp))) := (((((Tch.set (S := fun k => k = w.heap.size) wr (p := ⟨w.heap.size, 0, none⟩) rfl (.int .i64 cls)).trans (Tch.set (S := fun k => k = w.heap.size) _ (p := ⟨w.heap.size, 1, none⟩) rfl (.int .i64 nm))).trans (Tch.set (S := fun k => k = w.heap.size) _ (p := ⟨w.heap.size, 2, none⟩) rfl (.int .i64 0))).trans (Tch.set (S := fun k => k = w.heap.size) _ (p := ⟨w.heap.size, 3, none⟩) rfl (.slice none 0 0))).trans (Tch.set (S := fun k => k = w.heap.size) _ (p := ⟨w.heap.size, 4, none⟩) rfl (.slice (some ⟨q, 0, none⟩) 8 cp)))
      have HV : Hid (VZ (fun k => w.heap.size < k ∧ k < wr.heap.size) wr (.slice (some ⟨q, 0, none⟩) 8 cp) (frmV l)) := HG8.out.vz.weak (fun k hk => ⟨by have := HZ.out; omega, hk.2⟩)
      clear R5 HG8 HE hg hF hR hk8
      go_wp2
      refine bodyPost_ret (v := .agg #[.int .i64 cls, .int .i64 nm, .int .i64 0, .slice none 0 0, .slice (some ⟨q, 0, none⟩) 8 cp]) (by simp [results, Try.results83, go_sem, e0, e1, e2, e3, e4]) rfl ?_
      refine ⟨_, _, rfl, ?_, hb.out.trans (HT.out.below (by have := hb.out.size; omega) (fun k hk => by omega))⟩
      exact (HV.out.tch HT.out (fun k hk hk2 => by omega)).weak (fun k hk => ⟨hk.1, by simpa using hk.2⟩)
end Pg
end Go.Proofs.Ytffkkhaiedhaiaa

/- How a machine begins: the specification's Started. -/
namespace Go.Proofs.Ytffkkhaiedhaiaa
namespace Pg
open Go.ChangeShapes Go.WideShapes Go.ChangeAt Go.RowKit St

end Pg
end Go.Proofs.Ytffkkhaiedhaiaa

/- Rows of records of one's own, to be changed in place: the rows that the records hold lie in sets of blocks. -/
namespace Go.Proofs.Ytffkkhaiedhaiaa
namespace Pg
open Go.ChangeShapes Go.WideShapes Go.ChangeAt Go.RowKit St

theorem flatten_at {α : Type} {q : Nat} : ∀ (L : List (List α)), (∀ y ∈ L, y.length = q) → ∀ (i d : Nat) (y : List α), L[i]? = some y → d < q → L.flatten[i * q + d]? = y[d]?
  | [], _, i, d, y, h, _ => by simp at h
  | z :: L, hq, 0, d, y, h, hd => by
    simp at h
    subst h
    have := hq z (by simp)
    rw [List.flatten_cons, Nat.zero_mul, Nat.zero_add, List.getElem?_append_left (by omega)]
  | z :: L, hq, i + 1, d, y, h, hd => by
    have hz := hq z (by simp)
    have e : (i + 1) * q + d = z.length + (i * q + d) := by rw [hz, Nat.succ_mul]; omega
    rw [List.flatten_cons, e, List.getElem?_append_right (by omega), Nat.add_sub_cancel_left]
    exact flatten_at L (fun y hy => hq y (by simp [hy])) i d y (by simpa using h) hd
theorem flatten_set {α : Type} {q : Nat} : ∀ (L : List (List α)), (∀ y ∈ L, y.length = q) → ∀ (i d : Nat) (y : List α) (u : α), L[i]? = some y → d < q → L.flatten.set (i * q + d) u = (L.set i (y.set d u)).flatten
  | [], _, i, d, y, u, h, _ => by simp at h
  | z :: L, hq, 0, d, y, u, h, hd => by
    simp at h
    subst h
    have := hq z (by simp)
    rw [List.flatten_cons, Nat.zero_mul, Nat.zero_add, List.set_append_left _ _ (by omega), List.set_cons_zero, List.flatten_cons]
  | z :: L, hq, i + 1, d, y, u, h, hd => by
    have hz := hq z (by simp)
    have e : (i + 1) * q + d = z.length + (i * q + d) := by rw [hz, Nat.succ_mul]; omega
    rw [List.flatten_cons, e, List.set_append_right _ _ (by omega), Nat.add_sub_cancel_left, List.set_cons_succ, List.flatten_cons]
    rw [flatten_set L (fun y hy => hq y (by simp [hy])) i d y u (by simpa using h) hd]

/-- Records: a head of numbers, then rows of values. -/
structure RecT (α : Type) where
  t : TypeId
  n : Nat
  r : Nat
  hd : α → List Value
  rows : α → List (List Vl)
  hdn : ∀ x, (hd x).length = n
  rwn : ∀ x, (rows x).length = r
variable {α : Type}
/-- The records' cells, c being the rows' values. -/
def recs (R : RecT α) (l : List α) (c : List (List Value)) : List (List Value) := List.zipWith (fun x ys => R.hd x ++ ys) l c
theorem recs_len {R : RecT α} {l : List α} {c : List (List Value)} (hc : c.length = l.length) : (recs R l c).length = l.length := by simp [recs, hc]
theorem recs_at {R : RecT α} {l : List α} {c : List (List Value)} {i : Nat} {x : α} {ys : List Value} (h1 : l[i]? = some x) (h2 : c[i]? = some ys) : (recs R l c)[i]? = some (R.hd x ++ ys) := by
  unfold recs
  rw [List.getElem?_zipWith, h1, h2]
theorem recs_app {R : RecT α} {l : List α} {c : List (List Value)} (hc : c.length = l.length) (x : α) (ys : List Value) : recs R (l ++ [x]) (c ++ [ys]) = recs R l c ++ [R.hd x ++ ys] := by
  unfold recs
  rw [List.zipWith_append hc.symm]
  rfl
theorem recs_set {R : RecT α} {l : List α} {c : List (List Value)} (hc : c.length = l.length) (i : Nat) (x : α) (ys : List Value) : recs R (l.set i x) (c.set i ys) = (recs R l c).set i (R.hd x ++ ys) := by
  refine List.ext_getElem? fun j => ?_
  unfold recs
  rw [List.getElem?_zipWith, List.getElem?_set, List.getElem?_set, List.getElem?_set, List.getElem?_zipWith, List.length_zipWith, hc, Nat.min_self]
  by_cases e : i = j
  · rw [if_pos e, if_pos e, if_pos e]
    by_cases hl : j < l.length
    · subst e; rw [if_pos hl, if_pos hl, if_pos hl]
    · subst e; rw [if_neg hl, if_neg hl, if_neg hl]
  · rw [if_neg e, if_neg e, if_neg e]
structure OwnRc (R : RecT α) (B : Nat) (w : World) (v : Value) (l : List α) (c : List (List Value)) (T : Nat → Nat → Nat → Prop) : Prop where
  len : c.length = l.length
  own : w.ownsRow B R.t (R.n + R.r) v l.length (recs R l c).flatten
  off : ∀ i j k, T i j k → v.ownBlock ≠ some k
  lt : ∀ i j k, T i j k → k < w.heap.size
  one : ∀ i j i' j' k, T i j k → T i' j' k → i = i' ∧ j = j'
  wid : ∀ (i : Nat) (ys : List Value), c[i]? = some ys → ys.length = R.r
  row : ∀ (i : Nat) (x : α) (ys : List Value), l[i]? = some x → c[i]? = some ys → ∀ (j : Nat) (rr : List Vl) (y : Value), (R.rows x)[j]? = some rr → ys[j]? = some y → VZ (T i j) w y rr
theorem own_moved {u w : World} {B q n : Nat} {e : TypeId} {v : Value} {xs : List Value} (h : u.ownsRow B e q v n xs) (hg : ∀ g, v.ownBlock = some g → w.heap[g]? = u.heap[g]?) : w.ownsRow B e q v n xs := by
  obtain ⟨h1, h2 | ⟨g, cap, cur, rfl, h3, h4, h5⟩⟩ := h
  · exact ⟨h1, .inl h2⟩
  · exact ⟨h1, .inr ⟨g, cap, cur, rfl, h3, (hg g rfl).trans h4, h5⟩⟩
theorem OwnRc.moved {R : RecT α} {B : Nat} {u w : World} {v : Value} {l : List α} {c : List (List Value)} {T : Nat → Nat → Nat → Prop} (h : OwnRc R B u v l c T) (hs : u.heap.size ≤ w.heap.size) (hg : ∀ g, v.ownBlock = some g → w.heap[g]? = u.heap[g]?) (hb : ∀ i j k, T i j k → w.heap[k]? = u.heap[k]?) : OwnRc R B w v l c T :=
  ⟨h.len, own_moved h.own hg, h.off, fun i j k hk => Nat.lt_of_lt_of_le (h.lt i j k hk) hs, h.one, h.wid, fun i x ys h1 h2 j rr y h3 h4 => (h.row i x ys h1 h2 j rr y h3 h4).moved hs fun k hk _ => hb i j k hk⟩
theorem OwnRc.on {R : RecT α} {B : Nat} {u w : World} {v : Value} {l : List α} {c : List (List Value)} {T : Nat → Nat → Nat → Prop} (h : OwnRc R B u v l c T) (hb : Below u.heap.size u w) : OwnRc R B w v l c T :=
  h.moved hb.size (fun g hg => hb.block g (h.own.lt g hg).2) fun i j k hk => hb.block k (h.lt i j k hk)
/-- One more. -/
theorem OwnRc.app {R : RecT α} {B : Nat} {u w : World} {v v' : Value} {l : List α} {c : List (List Value)} {T : Nat → Nat → Nat → Prop} (h : OwnRc R B u v l c T) {x : α} {ys : List Value} {U : Nat → Nat → Prop}
    (hown : w.ownsRow B R.t (R.n + R.r) v' (l.length + 1) ((recs R l c).flatten ++ (R.hd x ++ ys))) (hgr : u.grownBy w v.ownBlock) (hv' : v'.ownBlock = v.ownBlock ∨ v'.ownBlock = some u.heap.size) (hy : ys.length = R.r)
    (hrow : ∀ (j : Nat) (rr : List Vl) (y : Value), (R.rows x)[j]? = some rr → ys[j]? = some y → VZ (U j) u y rr) (hU : ∀ j k, U j k → k < u.heap.size ∧ v.ownBlock ≠ some k ∧ ∀ i j', ¬ T i j' k) (hU1 : ∀ j j' k, U j k → U j' k → j = j') :
    OwnRc R B w v' (l ++ [x]) (c ++ [ys]) (fun i j k => if i = l.length then U j k else T i j k) := by
  have hoff : ∀ k, k < u.heap.size → v.ownBlock ≠ some k → v'.ownBlock ≠ some k := fun k hk hne => by
    rcases hv' with e | e
    · rw [e]; exact hne
    · rw [e]; intro e'; injection e' with e'; omega
  have hblk : ∀ k, k < u.heap.size → v.ownBlock ≠ some k → w.heap[k]? = u.heap[k]? := fun k hk hne => hgr.block k hk fun e => hne e.symm
  refine ⟨by simp [h.len], ?_, fun i j k hk => ?_, fun i j k hk => ?_, fun i j i' j' k hk hk' => ?_, fun i zs hz => ?_, fun i z zs h1 h2 j rr y h3 h4 => ?_⟩
  · rw [List.length_append, List.length_singleton, recs_app h.len, List.flatten_append]
    simpa using hown
  · split at hk
    · exact hoff k (hU j k hk).1 (hU j k hk).2.1
    · exact hoff k (h.lt i j k hk) (h.off i j k hk)
  · split at hk
    · exact Nat.lt_of_lt_of_le (hU j k hk).1 hgr.size
    · exact Nat.lt_of_lt_of_le (h.lt i j k hk) hgr.size
  · split at hk
    · rename_i e
      split at hk'
      · rename_i e'
        exact ⟨e.trans e'.symm, hU1 j j' k hk hk'⟩
      · exact absurd hk' ((hU j k hk).2.2 i' j')
    · split at hk'
      · exact absurd hk ((hU j' k hk').2.2 i j)
      · exact h.one i j i' j' k hk hk'
  · by_cases e : i < c.length
    · rw [List.getElem?_append_left e] at hz
      exact h.wid i zs hz
    · rw [List.getElem?_append_right (by omega)] at hz
      have := List.mem_of_getElem? hz
      simp at this
      rw [this]; exact hy
  · by_cases e : i < l.length
    · rw [List.getElem?_append_left e] at h1
      rw [List.getElem?_append_left (by rw [h.len]; exact e)] at h2
      refine ((h.row i z zs h1 h2 j rr y h3 h4).moved hgr.size fun k hk _ => hblk k (h.lt i j k hk) (h.off i j k hk)).weak fun k hk => ?_
      rw [if_neg (by omega)]
      exact hk
    · rw [List.getElem?_append_right (by omega)] at h1
      rw [List.getElem?_append_right (by rw [h.len]; omega), h.len] at h2
      have hi : i - l.length = 0 := by
        have := (List.getElem?_eq_some_iff.1 h1).1
        simp at this
        omega
      rw [hi] at h1 h2
      simp at h1 h2
      subst h1
      subst h2
      refine ((hrow j rr y h3 h4).moved hgr.size fun k hk _ => hblk k (hU j k hk).1 (hU j k hk).2.1).weak fun k hk => ?_
      rw [if_pos (by omega)]
      exact hk
/-- One turned. -/
theorem OwnRc.turn {R : RecT α} {B : Nat} {u w : World} {v : Value} {l : List α} {c : List (List Value)} {T : Nat → Nat → Nat → Prop} (h : OwnRc R B u v l c T) {i : Nat} {x : α} {ys : List Value} {U : Nat → Nat → Prop} (hi : i < l.length)
    (hown : w.ownsRow B R.t (R.n + R.r) v l.length (recs R (l.set i x) (c.set i ys)).flatten) (hs : u.heap.size ≤ w.heap.size) (hb : ∀ i' j k, i' ≠ i → T i' j k → w.heap[k]? = u.heap[k]?) (hy : ys.length = R.r)
    (hrow : ∀ (j : Nat) (rr : List Vl) (y : Value), (R.rows x)[j]? = some rr → ys[j]? = some y → VZ (U j) w y rr) (hU : ∀ j k, U j k → k < w.heap.size ∧ v.ownBlock ≠ some k ∧ ∀ i' j', i' ≠ i → ¬ T i' j' k) (hU1 : ∀ j j' k, U j k → U j' k → j = j') :
    OwnRc R B w v (l.set i x) (c.set i ys) (fun i' j k => if i' = i then U j k else T i' j k) := by
  refine ⟨by simp [h.len], by rw [List.length_set]; exact hown, fun i' j k hk => ?_, fun i' j k hk => ?_, fun i' j i'' j' k hk hk' => ?_, fun i' zs hz => ?_, fun i' z zs h1 h2 j rr y h3 h4 => ?_⟩
  · split at hk
    · exact (hU j k hk).2.1
    · exact h.off i' j k hk
  · split at hk
    · exact (hU j k hk).1
    · exact Nat.lt_of_lt_of_le (h.lt i' j k hk) hs
  · split at hk
    · rename_i e
      split at hk'
      · rename_i e'
        exact ⟨e.trans e'.symm, hU1 j j' k hk hk'⟩
      · rename_i e'
        exact absurd hk' ((hU j k hk).2.2 i'' j' e')
    · rename_i e
      split at hk'
      · exact absurd hk ((hU j' k hk').2.2 i' j e)
      · exact h.one i' j i'' j' k hk hk'
  · rw [List.getElem?_set] at hz
    split at hz
    · split at hz
      · injection hz with hz
        rw [← hz]; exact hy
      · simp at hz
    · exact h.wid i' zs hz
  · rw [List.getElem?_set] at h1 h2
    by_cases e : i = i'
    · subst e
      rw [if_pos rfl, if_pos hi] at h1
      rw [if_pos rfl, if_pos (by rw [h.len]; exact hi)] at h2
      injection h1 with h1
      injection h2 with h2
      subst h1
      subst h2
      refine (hrow j rr y h3 h4).weak fun k hk => ?_
      rw [if_pos rfl]
      exact hk
    · rw [if_neg e] at h1 h2
      refine ((h.row i' z zs h1 h2 j rr y h3 h4).moved hs fun k hk _ => hb i' j k (fun e' => e e'.symm) hk).weak fun k hk => ?_
      rw [if_neg fun e' => e e'.symm]
      exact hk
/-- A record's cell. -/
theorem OwnRc.cell {R : RecT α} {B g n cap : Nat} {w : World} {l : List α} {c : List (List Value)} {T : Nat → Nat → Nat → Prop} (h : OwnRc R B w (.slice (some ⟨g, 0, none⟩) n cap) l c T) {i : Nat} {x : α} {ys : List Value} (h1 : l[i]? = some x) (h2 : c[i]? = some ys) {d : Nat} (hd : d < R.n + R.r) :
    w.cell? ⟨g, i * (R.n + R.r) + d, none⟩ = (R.hd x ++ ys)[d]? := by
  have hq : ∀ y ∈ recs R l c, y.length = R.n + R.r := fun y hy => by
    obtain ⟨i, hi⟩ := List.getElem?_of_mem hy
    unfold recs at hi
    rw [List.getElem?_zipWith] at hi
    cases e1 : l[i]? with
    | none => rw [e1] at hi; simp at hi
    | some a =>
      cases e2 : c[i]? with
      | none => rw [e1, e2] at hi; simp at hi
      | some b =>
        rw [e1, e2] at hi
        simp at hi
        rw [← hi, List.length_append, R.hdn, h.wid i b e2]
  have hf := flatten_at (recs R l c) hq i d _ (recs_at h1 h2) hd
  have hsz := h.own.1
  rw [← hf]
  have hlt : i * (R.n + R.r) + d < (recs R l c).flatten.length := by
    rw [hsz]
    have hi := (List.getElem?_eq_some_iff.1 h1).1
    calc i * (R.n + R.r) + d < i * (R.n + R.r) + (R.n + R.r) := by omega
      _ = (i + 1) * (R.n + R.r) := (Nat.succ_mul _ _).symm
      _ ≤ l.length * (R.n + R.r) := Nat.mul_le_mul_right _ hi
  have := h.own.cells (g := g) rfl _ _ (List.getElem?_eq_getElem hlt)
  rw [Go.WideShapes.add_plain, Nat.zero_add] at this
  rw [this, List.getElem?_eq_getElem hlt]
/-- The program's objects and frames. -/
def recO : RecT Ob := ⟨118, 1, 1, fun x => [.int .i64 x.cls], fun x => [x.flds], fun _ => rfl, fun _ => rfl⟩
def recF : RecT Fr := ⟨49, 3, 2, fun x => [.int .i64 x.cls, .int .i64 x.name, .int .i64 x.pos], fun x => [x.stk, x.loc], fun _ => rfl, fun _ => rfl⟩
end Pg
end Go.Proofs.Ytffkkhaiedhaiaa
