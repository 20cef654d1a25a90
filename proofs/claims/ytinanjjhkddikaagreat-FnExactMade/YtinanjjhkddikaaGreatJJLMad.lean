/- What may come next, as a list of its own. -/
import Derived.Test.YtinanjjhkddikaaGreatJJHi1
import Derived.Test.YtinanjjhkddikaaGreatJJSg8
import Derived.Test.YtinanjjhkddikaaGreatJJPs1
import Derived.Lib.QuietBelow
import Derived.BigQuiet
import Derived.Deep.Cut
import Derived.Deep.CutRange
import Derived.Deep.CutBlock
import Derived.Test.YtinanjjhkddikaaGreatJJLo0
import Derived.Deep.RegionWith
namespace Go.Proofs.YtinanjjhkddikaaGreat
namespace Pg
open Go.ChangeShapes Go.WideShapes Go.ChangeAt Go.RowKit St

/-- A list of numbers that lies at B or behind it. -/
def LstB (B : Nat) (w : World) (v : Value) (l : List Int) : Prop := ∃ g c, v = .slice (some ⟨g, 0, none⟩) l.length c ∧ l.length ≤ c ∧ B ≤ g ∧ g < w.heap.size ∧ IRow w g 0 l
theorem lstB_of {B B' : Nat} {w : World} {v : Value} {l : List Int} (h : Grow B' w v l) (hB : B ≤ B') : LstB B w v l := by
  obtain ⟨g, c, hv, hc, hg, hr⟩ := h.lst
  obtain ⟨g', c', hv', h1, _⟩ := h.gint
  rw [hv] at hv'
  injection hv' with hv'
  injection hv' with hv'
  injection hv' with hv'
  subst hv'
  exact ⟨g, c, hv, hc, Nat.le_trans hB h1, hg, hr⟩
set_option maxRecDepth 100000 in
set_option maxHeartbeats 2000000 in
theorem l1PutB (B0 : Nat) (l : List Int) (v : Value) (n : Int) (hl : l.length ≤ 1000) (w : World) (hB0 : B0 ≤ w.heap.size) (h : LstB B0 w v l) :
    Calls Tryz.prog 45 #[v, .int .i64 n] w fun e w' => ∃ v', e = .returned v' ∧ LstB B0 w' v' (putL l n) ∧ Below w.heap.size w w' := by
  obtain ⟨i0, hif, hz0, hz1, hz2⟩ := info_parts infoN
  obtain ⟨g, cap, rfl, hcap, hgB, hgw, hir⟩ := h
  have HR : Hid (IRow w g 0 l) := hir
  clear hir
  go_enter Tryz.func45, Tryz.ntmps45
  go_wp2
  go_loopw [5] (fun i wr => ∃ k : Nat, k ≤ l.length ∧ i = .int .i64 (k : Int) ∧ Hid (∀ x ∈ l.take k, x < n) ∧ wr = w) (fun i _ => l.length - (intOf i).toNat)
  case atStart => exact ⟨0, Nat.zero_le _, rfl, fun x hx => by simp at hx, rfl⟩
  case round =>
    obtain ⟨k, hk, rfl, hlo, rfl⟩ := hrel
    have HAT : Hid ((∀ x, l[k]? = some x → x = n → putL l n = l) ∧ ((∀ x, l[k]? = some x → n < x) → putL l n = l.take k ++ n :: l.drop k)) := putL_at hlo.out hk
    have tail : ∀ (hne : ∀ x, l[k]? = some x → n < x), Hid (putL l n = (l.take k ++ [n]) ++ l.drop k) := fun hne => by show _ = _; rw [HAT.out.2 hne]; simp
    by_cases hlt : k < l.length
    · have c0 := HR.out k _ (List.getElem?_eq_getElem hlt)
      have X0 : Hid (l[k]? = some l[k]) := List.getElem?_eq_getElem hlt
      have HT : Hid (l[k] < n → ∀ x ∈ l.take (k + 1), x < n) := fun h x hx => by
        rw [List.take_succ_eq_append_getElem hlt] at hx
        rcases List.mem_append.1 hx with hx | hx
        · exact hlo.out x hx
        · simp at hx; subst hx; exact h
      generalize l[k] = y at *
      rw [Nat.zero_add] at c0
      have hki : (k : Int) < (l.length : Int) := by omega
      by_cases hy : y < n
      · have HL : Hid (∀ x ∈ l.take (k + 1), x < n) := HT.out hy
        clear HT hlo HAT tail X0
        go_wp2
        go_roundw
        case rel => exact ⟨k + 1, by omega, by go_num, HL.out, by simp⟩
        case measure => simp [intOf]; omega
      · by_cases hyn : y = n
        · subst hyn
          have HE : Hid (putL l y = l) := HAT.out.1 y X0.out rfl
          clear HT hlo HAT tail X0
          go_wp2
          go_ret
          exact ⟨_, rfl, by rw [HE.out]; exact ⟨g, cap, rfl, hcap, hgB, hgw, HR.out⟩, Below.refl _ _⟩
        · have HE := tail (fun x hx => by rw [X0.out] at hx; injection hx with hx; omega)
          have hyb : (y == n) = false := by simpa using hyn
          clear HT hlo HAT tail X0
          have hkl : (k : Int) ≤ (l.length : Int) := by omega
          have hk0 : (0 : Int) ≤ (k : Int) := by omega
          have hkc : (k : Int) ≤ (cap : Int) := by omega
          have HLT : Hid ((l.take k).length = k) := by show _ = _; rw [List.length_take]; omega
          have HLD : Hid ((l.drop k).length = l.length - k) := by show _ = _; rw [List.length_drop]
          have hO1 : (wr.alloc (.cells #[] 2)).ownsRow wr.heap.size 2 1 (.slice (some ⟨wr.heap.size, 0, none⟩) 0 0) 0 [] := World.ownsRow_made wr #[] 0 (Nat.le_refl _) (by decide) (by simp)
          have HO1 : Hid ((wr.alloc (.cells #[] 2)).ownsRow wr.heap.size 2 1 (.slice (some ⟨wr.heap.size, 0, none⟩) 0 0) 0 []) := hO1
          clear hO1
          go_wp2_with (at_builtin; refine wpList_append_own _ rfl _ _ 26 rfl wr.heap.size 2 i0 (.int .i64 0) 1 8 Tryz.underlying26 hif hz0 hz1 hz2 rfl (by decide) _ _ _ rfl HO1.out ⟨g, k, none⟩ (l.length - k) (cap - k) (nums (l.drop k)) rfl (by simp [nums]) (irow_nums (irow_drop (HR.out.on ((Below.refl _ _).alloc (Nat.le_refl _) _)))) (nums_one _) (by unfold maxLen; omega) (by omega) (by simp) ?_)
          intro v1 w1 hown1 hgrow1 hnil1
          have hb1 : Below wr.heap.size wr w1 := ((Below.refl _ _).alloc (Nat.le_refl _) _).grown hgrow1 (by simp) (fun q hq => by simp [Value.ownBlock] at hq; omega)
          have hBw1 : B0 ≤ w1.heap.size := Nat.le_trans hB0 hb1.size
          have HG1 : Hid (Grow wr.heap.size w1 v1 (l.drop k)) := grow_app (a := []) hown1 (by simp) (fun h => by first | exact hnil1 h | exact absurd (hnil1.1 h).1 (by simp))
          clear hown1 hgrow1 hnil1 HO1
          obtain ⟨g1, c1, rfl⟩ := HG1.out.form
          have HI1 : Hid (IRow w1 g1 0 (l.drop k)) := by
            obtain ⟨_, _, hv, _, _, hi, _⟩ := HG1.out.gint
            injection hv with e1 e2 e3
            injection e1 with e1
            injection e1 with e1
            subst e1
            exact hi
          rw [HLD.out]
          have HR1 : Hid (IRow w1 g 0 l) := HR.out.on hb1
          have hO2 : (w1.alloc (.cells #[] 2)).ownsRow w1.heap.size 2 1 (.slice (some ⟨w1.heap.size, 0, none⟩) 0 0) 0 [] := World.ownsRow_made w1 #[] 0 (Nat.le_refl _) (by decide) (by simp)
          have HO2 : Hid ((w1.alloc (.cells #[] 2)).ownsRow w1.heap.size 2 1 (.slice (some ⟨w1.heap.size, 0, none⟩) 0 0) 0 []) := hO2
          clear hO2
          go_wp2_with (at_builtin; refine wpList_append_own _ rfl _ _ 26 rfl w1.heap.size 2 i0 (.int .i64 0) 1 8 Tryz.underlying26 hif hz0 hz1 hz2 rfl (by decide) _ _ _ rfl HO2.out ⟨g, 0, none⟩ k cap (nums (l.take k)) rfl (by simp [nums]; omega) (irow_nums (irow_take (HR1.out.on ((Below.refl _ _).alloc (Nat.le_refl _) _)))) (nums_one _) (by unfold maxLen; omega) (by omega) (by simp) ?_)
          intro v2 w2 hown2 hgrow2 hnil2
          have hb2 : Below w1.heap.size w1 w2 := ((Below.refl _ _).alloc (Nat.le_refl _) _).grown hgrow2 (by simp) (fun q hq => by simp [Value.ownBlock] at hq; omega)
          have HG2 : Hid (Grow w1.heap.size w2 v2 (l.take k)) := grow_app (a := []) hown2 (by simp; omega) (fun h => by first | exact hnil2 h | exact absurd (hnil2.1 h).1 (by simp))
          clear hown2 hgrow2 hnil2 HO2
          obtain ⟨g2, c2, rfl⟩ := HG2.out.form
          rw [HLT.out]
          have HX2 : Hid (w2.ownsRow w1.heap.size 2 1 (.slice (some ⟨g2, 0, none⟩) k c2) k (nums (l.take k))) := by have h := HG2.out.1; rw [HLT.out] at h; exact h
          have hz2' : w1.heap.size ≤ w2.heap.size := hb2.size
          go_wp2_with (at_builtin; refine wpList_append_own _ rfl _ _ 26 rfl w1.heap.size 2 i0 (.int .i64 0) 1 8 Tryz.underlying26 hif hz0 hz1 hz2 rfl (by decide) _ _ _ rfl (HX2.out.alloc _) ⟨w2.heap.size, 0, none⟩ 1 1 [.int .i64 n] rfl rfl (cell_one_new _ _ _) (by simp [Value.oneCell']) (by unfold maxLen; omega) (by omega) (by simp; omega) ?_)
          intro v3 w3 hown3 hgrow3 hnil3
          have hb3 : Below w1.heap.size w1 w3 := (hb2.alloc hb2.size _).grown hgrow3 (by simp; omega) (fun q hq => by simp [Value.ownBlock] at hq; subst hq; exact (HX2.out.lt g2 rfl).1)
          have HG3 : Hid (Grow w1.heap.size w3 v3 (l.take k ++ [n])) := grow_app (b := [n]) hown3 (by rw [List.length_append, HLT.out]; rfl) (fun h => by first | exact hnil3 h | exact absurd (hnil3.1 h).1 (by simp))
          clear hown3 hgrow3 hnil3 HG2 hb2 HX2
          obtain ⟨g3, c3, rfl⟩ := HG3.out.form
          have HL3 : Hid ((l.take k ++ [n]).length = k + 1) := by show _ = _; rw [List.length_append, HLT.out]; rfl
          rw [HL3.out]
          have HX3 : Hid (w3.ownsRow w1.heap.size 2 1 (.slice (some ⟨g3, 0, none⟩) (k + 1) c3) (k + 1) (nums (l.take k ++ [n]))) := by have h := HG3.out.1; rw [HL3.out] at h; exact h
          have hz3 : w1.heap.size ≤ w3.heap.size := hb3.size
          have HI3 : Hid (IRow w3 g1 0 (l.drop k)) := HI1.out.on hb3
          go_wp2_with (at_builtin; refine wpList_append_own _ rfl _ _ 26 rfl w1.heap.size 2 i0 (.int .i64 0) 1 8 Tryz.underlying26 hif hz0 hz1 hz2 rfl (by decide) _ _ _ rfl HX3.out ⟨g1, 0, none⟩ (l.length - k) c1 (nums (l.drop k)) rfl (by simp [nums]) (irow_nums HI3.out) (nums_one _) (by unfold maxLen; omega) (by omega) hz3 ?_)
          intro v4 w4 hown4 hgrow4 hnil4
          have hb4 : Below w1.heap.size w1 w4 := hb3.grown hgrow4 hz3 (fun q hq => by simp [Value.ownBlock] at hq; subst hq; exact (HX3.out.lt g3 rfl).1)
          have HG4 : Hid (Grow w1.heap.size w4 v4 ((l.take k ++ [n]) ++ l.drop k)) := grow_app hown4 (by rw [List.length_append, HLD.out, HL3.out]) (fun h => by first | exact hnil4 h | exact absurd (hnil4.1 h).1 (by simp))
          have HB4 : Hid (Below wr.heap.size wr w4) := below_over hb1 hb4
          clear hown4 hgrow4 hnil4 hb4 hb3 hb1
          go_wp2
          go_ret
          exact ⟨_, rfl, by rw [HE.out]; exact lstB_of HG4.out (by first | exact hBw1 | exact hB0), HB4.out⟩
    · have HE := tail (fun x hx => by have := (List.getElem?_eq_some_iff.1 hx).1; omega)
      have hke : k = l.length := by omega
      subst hke
      rw [List.take_length, List.drop_length, List.append_nil] at HE
      clear hlo HAT tail
      have hkc : (l.length : Int) ≤ (cap : Int) := by omega
      rcases Nat.eq_or_lt_of_le hcap with hcc | hcc
      · subst hcc
        have HO1 : Hid ((wr.alloc (.cells #[] 2)).ownsRow wr.heap.size 2 1 (.slice (some ⟨wr.heap.size, 0, none⟩) 0 0) 0 []) := World.ownsRow_made wr #[] 0 (Nat.le_refl _) (by decide) (by simp)
        go_wp2_with (at_builtin; refine wpList_append_own _ rfl _ _ 26 rfl wr.heap.size 2 i0 (.int .i64 0) 1 8 Tryz.underlying26 hif hz0 hz1 hz2 rfl (by decide) _ _ _ rfl HO1.out _ 0 _ [] rfl rfl (by intro j u h; simp at h) (by simp) (by unfold maxLen; omega) (by omega) (by simp) ?_)
        intro v1 w1 hown1 hgrow1 hnil1
        have hb1 : Below wr.heap.size wr w1 := ((Below.refl _ _).alloc (Nat.le_refl _) _).grown hgrow1 (by simp) (fun q hq => by simp [Value.ownBlock] at hq; omega)
        have hBw1 : B0 ≤ w1.heap.size := Nat.le_trans hB0 hb1.size
        have HG1 : Hid (Grow wr.heap.size w1 v1 []) := grow_app (a := []) (b := []) hown1 (by simp) (fun h => by first | exact hnil1 h | exact absurd (hnil1.1 h).1 (by simp))
        clear hown1 hgrow1 hnil1 HO1
        obtain ⟨g1, c1, rfl⟩ := HG1.out.form
        rw [List.length_nil]
        have HR1 : Hid (IRow w1 g 0 l) := HR.out.on hb1
        have HO2 : Hid ((w1.alloc (.cells #[] 2)).ownsRow w1.heap.size 2 1 (.slice (some ⟨w1.heap.size, 0, none⟩) 0 0) 0 []) := World.ownsRow_made w1 #[] 0 (Nat.le_refl _) (by decide) (by simp)
        go_wp2_with (at_builtin; refine wpList_append_own _ rfl _ _ 26 rfl w1.heap.size 2 i0 (.int .i64 0) 1 8 Tryz.underlying26 hif hz0 hz1 hz2 rfl (by decide) _ _ _ rfl HO2.out ⟨g, 0, none⟩ l.length _ (nums l) rfl (by simp [nums]) (irow_nums (HR1.out.on ((Below.refl _ _).alloc (Nat.le_refl _) _))) (nums_one _) (by unfold maxLen; omega) (by omega) (by simp) ?_)
        intro v2 w2 hown2 hgrow2 hnil2
        have hb2 : Below w1.heap.size w1 w2 := ((Below.refl _ _).alloc (Nat.le_refl _) _).grown hgrow2 (by simp) (fun q hq => by simp [Value.ownBlock] at hq; omega)
        have HG2 : Hid (Grow w1.heap.size w2 v2 l) := grow_app (a := []) hown2 (by simp) (fun h => by first | exact hnil2 h | exact absurd (hnil2.1 h).1 (by simp))
        clear hown2 hgrow2 hnil2 HO2
        obtain ⟨g2, c2, rfl⟩ := HG2.out.form
        have hz2' : w1.heap.size ≤ w2.heap.size := hb2.size
        go_wp2_with (at_builtin; refine wpList_append_own _ rfl _ _ 26 rfl w1.heap.size 2 i0 (.int .i64 0) 1 8 Tryz.underlying26 hif hz0 hz1 hz2 rfl (by decide) _ _ _ rfl (HG2.out.1.alloc _) ⟨w2.heap.size, 0, none⟩ 1 1 [.int .i64 n] rfl rfl (cell_one_new _ _ _) (by simp [Value.oneCell']) (by unfold maxLen; omega) (by omega) (by simp; omega) ?_)
        intro v3 w3 hown3 hgrow3 hnil3
        have hb3 : Below w1.heap.size w1 w3 := (hb2.alloc hb2.size _).grown hgrow3 (by simp; omega) (fun q hq => by simp [Value.ownBlock] at hq; subst hq; exact (HG2.out.1.lt g2 rfl).1)
        have HG3 : Hid (Grow w1.heap.size w3 v3 (l ++ [n])) := grow_next hown3 (fun h => by first | exact hnil3 h | exact absurd (hnil3.1 h).1 (by simp))
        clear hown3 hgrow3 hnil3 HG2 hb2
        obtain ⟨g3, c3, rfl⟩ := HG3.out.form
        have HL3 : Hid ((l ++ [n]).length = l.length + 1) := by show _ = _; rw [List.length_append]; rfl
        rw [HL3.out]
        have HX3 : Hid (w3.ownsRow w1.heap.size 2 1 (.slice (some ⟨g3, 0, none⟩) (l.length + 1) c3) (l.length + 1) (nums (l ++ [n]))) := by have h := HG3.out.1; rw [HL3.out] at h; exact h
        have hz3 : w1.heap.size ≤ w3.heap.size := hb3.size
        go_wp2_with (at_builtin; refine wpList_append_own _ rfl _ _ 26 rfl w1.heap.size 2 i0 (.int .i64 0) 1 8 Tryz.underlying26 hif hz0 hz1 hz2 rfl (by decide) _ _ _ rfl HX3.out ⟨g1, 0, none⟩ 0 c1 [] rfl rfl (by intro j u h; simp at h) (by simp) (by unfold maxLen; omega) (by omega) hz3 ?_)
        intro v4 w4 hown4 hgrow4 hnil4
        have hb4 : Below w1.heap.size w1 w4 := hb3.grown hgrow4 hz3 (fun q hq => by simp [Value.ownBlock] at hq; subst hq; exact (HX3.out.lt g3 rfl).1)
        have HG4 : Hid (Grow w1.heap.size w4 v4 (l ++ [n])) := ⟨by rw [HL3.out]; exact hown4, fun h => by first | exact hnil4 h | exact absurd (hnil4.1 h).1 (by simp)⟩
        have HB4 : Hid (Below wr.heap.size wr w4) := below_over hb1 hb4
        clear hown4 hgrow4 hnil4 hb4 hb3 hb1
        go_wp2
        go_ret
        exact ⟨_, rfl, by rw [HE.out]; exact lstB_of HG4.out (by first | exact hBw1 | exact hB0), HB4.out⟩
      · have hcc1 : ¬ (cap - l.length = 0) := by omega
        have hcc2 : (l.length : Int) < (cap : Int) := by omega
        have hcc3 : cap ≠ l.length := by omega
        have HO1 : Hid ((wr.alloc (.cells #[] 2)).ownsRow wr.heap.size 2 1 (.slice (some ⟨wr.heap.size, 0, none⟩) 0 0) 0 []) := World.ownsRow_made wr #[] 0 (Nat.le_refl _) (by decide) (by simp)
        go_wp2_with (at_builtin; refine wpList_append_own _ rfl _ _ 26 rfl wr.heap.size 2 i0 (.int .i64 0) 1 8 Tryz.underlying26 hif hz0 hz1 hz2 rfl (by decide) _ _ _ rfl HO1.out _ 0 _ [] rfl rfl (by intro j u h; simp at h) (by simp) (by unfold maxLen; omega) (by omega) (by simp) ?_)
        intro v1 w1 hown1 hgrow1 hnil1
        have hb1 : Below wr.heap.size wr w1 := ((Below.refl _ _).alloc (Nat.le_refl _) _).grown hgrow1 (by simp) (fun q hq => by simp [Value.ownBlock] at hq; omega)
        have hBw1 : B0 ≤ w1.heap.size := Nat.le_trans hB0 hb1.size
        have HG1 : Hid (Grow wr.heap.size w1 v1 []) := grow_app (a := []) (b := []) hown1 (by simp) (fun h => by first | exact hnil1 h | exact absurd (hnil1.1 h).1 (by simp))
        clear hown1 hgrow1 hnil1 HO1
        obtain ⟨g1, c1, rfl⟩ := HG1.out.form
        rw [List.length_nil]
        have HR1 : Hid (IRow w1 g 0 l) := HR.out.on hb1
        have HO2 : Hid ((w1.alloc (.cells #[] 2)).ownsRow w1.heap.size 2 1 (.slice (some ⟨w1.heap.size, 0, none⟩) 0 0) 0 []) := World.ownsRow_made w1 #[] 0 (Nat.le_refl _) (by decide) (by simp)
        go_wp2_with (at_builtin; refine wpList_append_own _ rfl _ _ 26 rfl w1.heap.size 2 i0 (.int .i64 0) 1 8 Tryz.underlying26 hif hz0 hz1 hz2 rfl (by decide) _ _ _ rfl HO2.out ⟨g, 0, none⟩ l.length _ (nums l) rfl (by simp [nums]) (irow_nums (HR1.out.on ((Below.refl _ _).alloc (Nat.le_refl _) _))) (nums_one _) (by unfold maxLen; omega) (by omega) (by simp) ?_)
        intro v2 w2 hown2 hgrow2 hnil2
        have hb2 : Below w1.heap.size w1 w2 := ((Below.refl _ _).alloc (Nat.le_refl _) _).grown hgrow2 (by simp) (fun q hq => by simp [Value.ownBlock] at hq; omega)
        have HG2 : Hid (Grow w1.heap.size w2 v2 l) := grow_app (a := []) hown2 (by simp) (fun h => by first | exact hnil2 h | exact absurd (hnil2.1 h).1 (by simp))
        clear hown2 hgrow2 hnil2 HO2
        obtain ⟨g2, c2, rfl⟩ := HG2.out.form
        have hz2' : w1.heap.size ≤ w2.heap.size := hb2.size
        go_wp2_with (at_builtin; refine wpList_append_own _ rfl _ _ 26 rfl w1.heap.size 2 i0 (.int .i64 0) 1 8 Tryz.underlying26 hif hz0 hz1 hz2 rfl (by decide) _ _ _ rfl (HG2.out.1.alloc _) ⟨w2.heap.size, 0, none⟩ 1 1 [.int .i64 n] rfl rfl (cell_one_new _ _ _) (by simp [Value.oneCell']) (by unfold maxLen; omega) (by omega) (by simp; omega) ?_)
        intro v3 w3 hown3 hgrow3 hnil3
        have hb3 : Below w1.heap.size w1 w3 := (hb2.alloc hb2.size _).grown hgrow3 (by simp; omega) (fun q hq => by simp [Value.ownBlock] at hq; subst hq; exact (HG2.out.1.lt g2 rfl).1)
        have HG3 : Hid (Grow w1.heap.size w3 v3 (l ++ [n])) := grow_next hown3 (fun h => by first | exact hnil3 h | exact absurd (hnil3.1 h).1 (by simp))
        clear hown3 hgrow3 hnil3 HG2 hb2
        obtain ⟨g3, c3, rfl⟩ := HG3.out.form
        have HL3 : Hid ((l ++ [n]).length = l.length + 1) := by show _ = _; rw [List.length_append]; rfl
        rw [HL3.out]
        have HX3 : Hid (w3.ownsRow w1.heap.size 2 1 (.slice (some ⟨g3, 0, none⟩) (l.length + 1) c3) (l.length + 1) (nums (l ++ [n]))) := by have h := HG3.out.1; rw [HL3.out] at h; exact h
        have hz3 : w1.heap.size ≤ w3.heap.size := hb3.size
        go_wp2_with (at_builtin; refine wpList_append_own _ rfl _ _ 26 rfl w1.heap.size 2 i0 (.int .i64 0) 1 8 Tryz.underlying26 hif hz0 hz1 hz2 rfl (by decide) _ _ _ rfl HX3.out ⟨g1, 0, none⟩ 0 c1 [] rfl rfl (by intro j u h; simp at h) (by simp) (by unfold maxLen; omega) (by omega) hz3 ?_)
        intro v4 w4 hown4 hgrow4 hnil4
        have hb4 : Below w1.heap.size w1 w4 := hb3.grown hgrow4 hz3 (fun q hq => by simp [Value.ownBlock] at hq; subst hq; exact (HX3.out.lt g3 rfl).1)
        have HG4 : Hid (Grow w1.heap.size w4 v4 (l ++ [n])) := ⟨by rw [HL3.out]; exact hown4, fun h => by first | exact hnil4 h | exact absurd (hnil4.1 h).1 (by simp)⟩
        have HB4 : Hid (Below wr.heap.size wr w4) := below_over hb1 hb4
        clear hown4 hgrow4 hnil4 hb4 hb3 hb1
        go_wp2
        go_ret
        exact ⟨_, rfl, by rw [HE.out]; exact lstB_of HG4.out (by first | exact hBw1 | exact hB0), HB4.out⟩
set_option maxRecDepth 100000 in
set_option maxHeartbeats 2000000 in
theorem l9NextsB (g yc : Nat) (code : List Tx.Ins) (hl : code.length ≤ 1000) (k : Nat) (hk : k < code.length) (w : World) (hrow : Row w g 0 code) :
    Calls Tryz.prog 68 #[.slice (some ⟨g, 0, none⟩) code.length yc, .int .i64 k] w fun e w' => ∃ v, e = .returned v ∧ LstB w.heap.size w' v (nextsF code k) ∧ Below w.heap.size w w' := by
  have hx : code[k]? = some (insF code k) := by unfold insF; rw [List.getD_eq_getElem?_getD, List.getElem?_eq_getElem hk]; rfl
  obtain ⟨d0, d1, d2⟩ := hrow k _ hx
  simp only [Nat.zero_add] at d0 d1 d2
  have hki : (k : Int) < (code.length : Int) := by omega
  rw [nexts_is]
  generalize insF code k = ins at *
  obtain ⟨op, A, b⟩ := ins
  dsimp only at d0 d1 d2 ⊢
  have hw2 : Below w.heap.size w ((w.alloc (.cells #[.int .i64 op, .int .i64 A, .int .i64 b] 73)).alloc (.cells #[] 2)) := ((Below.refl _ _).alloc (Nat.le_refl _) _).alloc (by simp) _
  have CI2 : Hid (Cells ((w.alloc (.cells #[.int .i64 op, .int .i64 A, .int .i64 b] 73)).alloc (.cells #[] 2)) w.heap.size [.int .i64 op, .int .i64 A, .int .i64 b]) := (Cells.new w _ rfl _ _).alloc _
  have CI3 : Hid (Cells (((w.alloc (.cells #[.int .i64 op, .int .i64 A, .int .i64 b] 73)).alloc (.cells #[] 2)).alloc (.cells #[.int .i64 ((k : Int) + 1)] 2)) w.heap.size [.int .i64 op, .int .i64 A, .int .i64 b]) := ((Cells.new w _ rfl _ _).alloc _).alloc _
  have hge : Grow (w.heap.size + 1) ((w.alloc (.cells #[.int .i64 op, .int .i64 A, .int .i64 b] 73)).alloc (.cells #[] 2)) (.slice (some ⟨w.heap.size + 1, 0, none⟩) 0 0) [] := by
    have h := grow_empty (w.alloc (.cells #[.int .i64 op, .int .i64 A, .int .i64 b] 73)) (B := w.heap.size + 1) (by simp)
    simpa using h
  have HGL : Hid (Grow (w.heap.size + 1) (((w.alloc (.cells #[.int .i64 op, .int .i64 A, .int .i64 b] 73)).alloc (.cells #[] 2)).alloc (.cells #[.int .i64 ((k : Int) + 1)] 2)) (.slice (some ⟨w.heap.size + 1, 0, none⟩) 0 0) []) := growOn hge (allocBelow _ _)
  have HL0 : Hid (LstB w.heap.size ((w.alloc (.cells #[.int .i64 op, .int .i64 A, .int .i64 b] 73)).alloc (.cells #[] 2)) (.slice (some ⟨w.heap.size + 1, 0, none⟩) 0 0) []) := lstB_of hge (Nat.le_succ _)
  have HSI : Hid (SI true (w.heap.size + 1) (((w.alloc (.cells #[.int .i64 op, .int .i64 A, .int .i64 b] 73)).alloc (.cells #[] 2)).alloc (.cells #[.int .i64 ((k : Int) + 1)] 2)) (.slice (some ⟨w.heap.size + 1 + 1, 0, none⟩) 1 1) [(k : Int) + 1]) := by
    have h := SI.weak (grow_lit1 ((w.alloc (.cells #[.int .i64 op, .int .i64 A, .int .i64 b] 73)).alloc (.cells #[] 2)) ((k : Int) + 1)).gint.si (B' := w.heap.size + 1) (by simp)
    show SI _ _ _ _ _
    simpa using h
  clear hx hrow hge
  by_cases h11 : op = 11
  · subst h11
    have HV : Hid (nextsL 11 A k code.length = putL [] A) := by show _ = _; simp [nextsL]
    rw [HV.out]
    have hjb : Lay.jumpB 11 = true := by simp [Lay.jumpB]
    go_enter Tryz.func68, Tryz.ntmps68
    obtain ⟨i0, _⟩ := CI2.out.g0
    obtain ⟨i1, _⟩ := CI2.out.g1
    go_wp2_with fail
    refine (St.l3Jump 11 ((w.alloc (.cells #[.int .i64 11, .int .i64 A, .int .i64 b] 73)).alloc (.cells #[] 2))).mono ?_
    rw [hjb]
    rintro e _ ⟨rfl, rfl⟩
    go_wp2_with fail
    refine (l1PutB w.heap.size ([] : List Int) (.slice (some ⟨w.heap.size + 1, 0, none⟩) 0 0) A (by simp) ((w.alloc (.cells #[.int .i64 11, .int .i64 A, .int .i64 b] 73)).alloc (.cells #[] 2)) (by simp; omega) HL0.out).mono ?_
    rintro e w3 ⟨v', rfl, hls, hb3⟩
    have hw3 : Below w.heap.size w w3 := below_over hw2 hb3
    clear hb3
    go_wp2
    go_ret
    exact ⟨_, rfl, hls, hw3⟩
  · have hn11 : (op != 11) = true := by simp [h11]
    by_cases h20 : op = 20
    · subst h20
      clear hn11
      have HV : Hid (nextsL 20 A k code.length = []) := by show _ = _; simp [nextsL]
      rw [HV.out]
      have hjb : Lay.jumpB 20 = false := by simp [Lay.jumpB]
      go_enter Tryz.func68, Tryz.ntmps68
      obtain ⟨i0, _⟩ := CI2.out.g0
      obtain ⟨i1, _⟩ := CI2.out.g1
      go_wp2_with fail
      refine (St.l3Jump 20 ((w.alloc (.cells #[.int .i64 20, .int .i64 A, .int .i64 b] 73)).alloc (.cells #[] 2))).mono ?_
      rw [hjb]
      rintro e _ ⟨rfl, rfl⟩
      go_wp2
      go_ret
      exact ⟨_, rfl, HL0.out, hw2⟩
    · have hn20 : (op != 20) = true := by simp [h20]
      by_cases hlt : k + 1 < code.length
      · have hli : (k : Int) + 1 < (code.length : Int) := by omega
        have hld : decide ((k : Int) + 1 < (code.length : Int)) = true := by simp; omega
        by_cases h12 : op = 12
        · subst h12
          clear hn11 hn20
          have HV : Hid (nextsL 12 A k code.length = putL [(k : Int) + 1] A) := by show _ = _; simp [nextsL, hlt]
          rw [HV.out]
          have hjb : Lay.jumpB 12 = true := by simp [Lay.jumpB]
          go_enter Tryz.func68, Tryz.ntmps68
          go_wp2_with (at_builtin; refine wpList_grow rfl _ _ rfl (w.heap.size + 1) _ _ rfl HGL.out (by simp) _ _ _ [(k : Int) + 1] rfl HSI.out (by simp) ?_)
          intro v1 w1 hg1 hk1
          have hw1 : Below w.heap.size w w1 := ((((Below.refl _ _).alloc (Nat.le_refl _) _).alloc (by simp) _).alloc (by simp; omega) _).trans (hk1.below.mono (Nat.le_succ _))
          have CI1 : Cells w1 w.heap.size [.int .i64 12, .int .i64 A, .int .i64 b] := CI3.out.low hk1.below (Nat.lt_succ_self _)
          have HGW : Hid (Grow (w.heap.size + 1) w1 v1 [(k : Int) + 1]) := hg1
          obtain ⟨i0, _⟩ := CI1.g0
          obtain ⟨i1, _⟩ := CI1.g1
          clear hg1 hk1
          go_wp2_with fail
          refine (St.l3Jump 12 w1).mono ?_
          rw [hjb]
          rintro e _ ⟨rfl, rfl⟩
          go_wp2_with fail
          refine (l1PutB w.heap.size [(k : Int) + 1] v1 A (by simp) w1 hw1.size (lstB_of HGW.out (by first | exact Nat.le_refl _ | omega))).mono ?_
          rintro e w3 ⟨v', rfl, hls, hb3⟩
          have hw3 : Below w.heap.size w w3 := below_over hw1 hb3
          clear hb3
          go_wp2
          go_ret
          exact ⟨_, rfl, hls, hw3⟩
        · have HV : Hid (nextsL op A k code.length = [(k : Int) + 1]) := by show _ = _; simp [nextsL, h11, h20, h12, hlt]
          rw [HV.out]
          have hjb : Lay.jumpB op = false := by simp [Lay.jumpB, h11, h12]
          go_enter Tryz.func68, Tryz.ntmps68
          go_wp2_with (at_builtin; refine wpList_grow rfl _ _ rfl (w.heap.size + 1) _ _ rfl HGL.out (by simp) _ _ _ [(k : Int) + 1] rfl HSI.out (by simp) ?_)
          intro v1 w1 hg1 hk1
          have hw1 : Below w.heap.size w w1 := ((((Below.refl _ _).alloc (Nat.le_refl _) _).alloc (by simp) _).alloc (by simp; omega) _).trans (hk1.below.mono (Nat.le_succ _))
          have CI1 : Cells w1 w.heap.size [.int .i64 op, .int .i64 A, .int .i64 b] := CI3.out.low hk1.below (Nat.lt_succ_self _)
          have HGW : Hid (Grow (w.heap.size + 1) w1 v1 [(k : Int) + 1]) := hg1
          obtain ⟨i0, _⟩ := CI1.g0
          obtain ⟨i1, _⟩ := CI1.g1
          clear hg1 hk1
          go_wp2_with fail
          refine (St.l3Jump op w1).mono ?_
          rw [hjb]
          rintro e _ ⟨rfl, rfl⟩
          go_wp2
          go_ret
          exact ⟨_, rfl, lstB_of HGW.out (by first | exact Nat.le_refl _ | omega), hw1⟩
      · have hli : ¬ (k : Int) + 1 < (code.length : Int) := by omega
        have hld : decide ((k : Int) + 1 < (code.length : Int)) = false := by simp; omega
        by_cases h12 : op = 12
        · subst h12
          clear hn11 hn20
          have HV : Hid (nextsL 12 A k code.length = putL [] A) := by show _ = _; simp [nextsL, hlt]
          rw [HV.out]
          have hjb : Lay.jumpB 12 = true := by simp [Lay.jumpB]
          go_enter Tryz.func68, Tryz.ntmps68
          obtain ⟨i0, _⟩ := CI2.out.g0
          obtain ⟨i1, _⟩ := CI2.out.g1
          go_wp2_with fail
          refine (St.l3Jump 12 ((w.alloc (.cells #[.int .i64 12, .int .i64 A, .int .i64 b] 73)).alloc (.cells #[] 2))).mono ?_
          rw [hjb]
          rintro e _ ⟨rfl, rfl⟩
          go_wp2_with fail
          refine (l1PutB w.heap.size ([] : List Int) (.slice (some ⟨w.heap.size + 1, 0, none⟩) 0 0) A (by simp) ((w.alloc (.cells #[.int .i64 12, .int .i64 A, .int .i64 b] 73)).alloc (.cells #[] 2)) (by simp; omega) HL0.out).mono ?_
          rintro e w3 ⟨v', rfl, hls, hb3⟩
          have hw3 : Below w.heap.size w w3 := below_over hw2 hb3
          clear hb3
          go_wp2
          go_ret
          exact ⟨_, rfl, hls, hw3⟩
        · have HV : Hid (nextsL op A k code.length = []) := by show _ = _; simp [nextsL, h11, h12, hlt]
          rw [HV.out]
          have hjb : Lay.jumpB op = false := by simp [Lay.jumpB, h11, h12]
          go_enter Tryz.func68, Tryz.ntmps68
          obtain ⟨i0, _⟩ := CI2.out.g0
          obtain ⟨i1, _⟩ := CI2.out.g1
          go_wp2_with fail
          refine (St.l3Jump op ((w.alloc (.cells #[.int .i64 op, .int .i64 A, .int .i64 b] 73)).alloc (.cells #[] 2))).mono ?_
          rw [hjb]
          rintro e _ ⟨rfl, rfl⟩
          go_wp2
          go_ret
          exact ⟨_, rfl, HL0.out, hw2⟩
end Pg
end Go.Proofs.YtinanjjhkddikaaGreat

/- The leaders, as a list of its own (the specification's). -/
namespace Go.Proofs.YtinanjjhkddikaaGreat
namespace Pg
open Go.ChangeShapes Go.WideShapes Go.ChangeAt Go.RowKit St

theorem LstB.form {B : Nat} {w : World} {v : Value} {l : List Int} (h : LstB B w v l) : ∃ g c, v = .slice (some ⟨g, 0, none⟩) l.length c := by
  obtain ⟨g, c, hv, _⟩ := h
  exact ⟨g, c, hv⟩
theorem LstB.on {B : Nat} {u w : World} {v : Value} {l : List Int} (h : LstB B u v l) (hb : Below u.heap.size u w) : LstB B w v l := by
  obtain ⟨g, c, h1, h2, h3, h4, h5⟩ := h
  exact ⟨g, c, h1, h2, h3, Nat.lt_of_lt_of_le h4 hb.size, h5.on hb⟩
theorem LstB.lst {B : Nat} {w : World} {v : Value} {l : List Int} (h : LstB B w v l) : Lst w v l := by
  obtain ⟨g, c, h1, h2, h3, h4, h5⟩ := h
  exact ⟨g, c, h1, h2, h4, h5⟩
end Pg
end Go.Proofs.YtinanjjhkddikaaGreat

/- What is reached: the specification's sweeps in memory. -/
namespace Go.Proofs.YtinanjjhkddikaaGreat
namespace Pg
open Go.ChangeShapes Go.WideShapes Go.ChangeAt Go.RowKit St Wd

theorem hid_of {p : Prop} (h : p) : Hid p := h
theorem ins_A {i : Tx.Ins} (h : Tx.okI i.1 i.2.1 i.2.2 = true) (h14 : i.1 = 14 ∨ i.1 = 17) : 0 ≤ i.2.1 := by
  unfold Tx.okI at h
  rw [if_neg (by omega)] at h
  unfold Tx.limA at h
  simp only [Bool.and_eq_true, decide_eq_true_eq] at h
  rcases h14 with e | e
  · rw [e] at h; simp at h; omega
  · rw [e] at h; simp at h; omega
def lenV : Value → Nat
  | .slice _ n _ => n
  | _ => 0
/-- What has been asked of the first j reached steps of a method. -/
def AskJ (p : Prg) (M0 L0 : List Int) (code : List Tx.Ins) (j : Nat) : Prop := ∀ a, a < j → ∀ t, (risL (rchB code) 40)[a]? = some t → Stp p M0 L0 (insF code t.toNat)
/-- What has been asked of the first b made classes, for a call. -/
def AskB (p : Prg) (M0 L0 : List Int) (A B : Int) (b : Nat) : Prop := ∀ a, a < b → ∀ d, M0[a]? = some d → undB p d A = true → 0 ≤ selF p d B → selF p d B * 20 + B ∈ L0
theorem AskK.next {p : Prg} (hok : okP p = true) {M0 L0 : List Int} {k c n : Nat} (h : AskK p M0 L0 k) (hx : L0[k]? = some (((c * 20 + n : Nat)) : Int)) (hn : n < 20) {cl : Cls} {own : Meth} (hc : p[c]? = some cl) (ho : ownF cl (n : Int) = some own)
    (hj : AskJ p M0 L0 own.code (risL (rchB own.code) 40).length) : AskK p M0 L0 (k + 1) := by
  intro j hj' x hx' c' n' i he hr hi
  rcases Nat.lt_or_ge j k with h1 | h1
  · exact h j h1 x hx' c' n' i he hr hi
  · obtain rfl : j = k := by omega
    rw [hx] at hx'
    injection hx' with hx'
    have hn' := rd_name hok hr
    obtain rfl : c' = c := by omega
    obtain rfl : n' = (n : Int) := by omega
    obtain ⟨cl', own', t, h2, h3, h4, h5, rfl⟩ := hi
    rw [hc] at h2
    injection h2 with h2
    subst h2
    rw [ho] at h3
    injection h3 with h3
    subst h3
    have h40 := (Lay.ok_len (own_code hok hc ho)).2
    have hm : ((t : Nat) : Int) ∈ risL (rchB own.code) 40 := risL_mem.2 ⟨t, by omega, h5, rfl⟩
    obtain ⟨a, ha, hat⟩ := List.getElem_of_mem hm
    have := hj a ha _ (by rw [List.getElem?_eq_getElem ha, hat])
    rwa [Int.toNat_natCast] at this
theorem AskJ.next {p : Prg} {M0 L0 : List Int} {code : List Tx.Ins} {j : Nat} (h : AskJ p M0 L0 code j) {t : Nat} (ht : (risL (rchB code) 40)[j]? = some ((t : Nat) : Int)) (hs : Stp p M0 L0 (insF code t)) : AskJ p M0 L0 code (j + 1) := by
  intro a ha x hx
  rcases Nat.lt_or_ge a j with h1 | h1
  · exact h a h1 x hx
  · obtain rfl : a = j := by omega
    rw [ht] at hx
    injection hx with hx
    subst hx
    rw [Int.toNat_natCast]
    exact hs
theorem AskB.next {p : Prg} {M0 L0 : List Int} {A B : Int} {b : Nat} (h : AskB p M0 L0 A B b) (hs : ∀ d, M0[b]? = some d → undB p d A = true → 0 ≤ selF p d B → selF p d B * 20 + B ∈ L0) : AskB p M0 L0 A B (b + 1) := by
  intro a ha d hd
  rcases Nat.lt_or_ge a b with h1 | h1
  · exact h a h1 d hd
  · obtain rfl : a = b := by omega
    exact hs d hd
theorem stp_far {p : Prg} {M0 L0 : List Int} {i : Tx.Ins} (h : (p.length : Int) ≤ i.2.1) : Stp p M0 L0 i := ⟨fun _ h1 => by omega, fun _ h1 => by omega⟩
theorem stp_other {p : Prg} {M0 L0 : List Int} {i : Tx.Ins} (h1 : i.1 ≠ 14) (h2 : i.1 ≠ 17) : Stp p M0 L0 i := ⟨fun h => absurd h h1, fun h => absurd h h2⟩
theorem stp_new {p : Prg} {M0 L0 : List Int} {i : Tx.Ins} (h : i.1 = 14) (hA : i.2.1 ∈ M0) : Stp p M0 L0 i := ⟨fun _ _ => hA, fun h2 => by omega⟩
theorem stp_call {p : Prg} {M0 L0 : List Int} {i : Tx.Ins} (h : i.1 = 17) (h1 : 0 ≤ selF p i.2.1 i.2.2 → selF p i.2.1 i.2.2 * 20 + i.2.2 ∈ L0) (h2 : AskB p M0 L0 i.2.1 i.2.2 M0.length) : Stp p M0 L0 i := by
  refine ⟨fun h3 => by omega, fun _ _ => ⟨h1, fun d hd hu hs => ?_⟩⟩
  obtain ⟨a, ha, had⟩ := List.getElem_of_mem hd
  exact h2 a ha d (by rw [List.getElem?_eq_getElem ha, had]) hu hs
set_option maxRecDepth 100000 in
set_option maxHeartbeats 8000000 in
theorem l14Reach_at (Bp : Nat) (p : Prg) (bp po cap : Nat) (hok : okP p = true) (hsp : SmallP p) (w : World) (hp : SK front Bp w (.slice (some ⟨bp, po, none⟩) p.length cap) p) :
    Calls Tryz.prog 25 #[.agg #[.slice (some ⟨bp, po, none⟩) p.length cap]] w fun e w' => ∃ v1 v2, e = .returned (.tuple #[v1, v2]) ∧ LstB w.heap.size w' v1 (risL (madB p) 6) ∧ LstB w.heap.size w' v2 (risL (livB p) 120) ∧ Below w.heap.size w w' := by
  have h6 := (okP_len hok).2
  have hsup := okP_sup hok
  obtain ⟨W, hW⟩ : ∃ W, W = ((w.alloc (.cells #[.slice (some ⟨bp, po, none⟩) p.length cap] 30)).alloc (.cells #[.int .i64 0] 2)).alloc (.cells #[.int .i64 0] 2) := ⟨_, rfl⟩
  have hwW : Below w.heap.size w W := by rw [hW]; exact (((Below.refl _ _).alloc (Nat.le_refl _) _).alloc (by simp) _).alloc (by simp; omega) _
  have P0 : Hid (Cells W w.heap.size [.slice (some ⟨bp, po, none⟩) p.length cap]) := by rw [hW]; exact ((Cells.new w _ rfl _ _).alloc _).alloc _
  have C1 : Cells W (w.heap.size + 1) [.int .i64 0] := by rw [hW]; exact (Cells.new (w.alloc _) _ (by simp) _ _).alloc _
  have C2 : Cells W (w.heap.size + 1 + 1) [.int .i64 0] := by rw [hW]; exact Cells.new ((w.alloc _).alloc _) _ (by simp) _ _
  have L1 : Hid (LstB w.heap.size W (.slice (some ⟨w.heap.size + 1, 0, none⟩) 1 1) [0]) := ⟨_, 1, rfl, Nat.le_refl _, by omega, cell_lt C1.g0.1, fun j x hj => by
    match j, hj with
    | 0, hj => simp at hj; subst hj; exact C1.g0.1
    | j + 1, hj => simp at hj⟩
  have L2 : Hid (LstB w.heap.size W (.slice (some ⟨w.heap.size + 1 + 1, 0, none⟩) 1 1) [0]) := ⟨_, 1, rfl, Nat.le_refl _, by omega, cell_lt C2.g0.1, fun j x hj => by
    match j, hj with
    | 0, hj => simp at hj; subst hj; exact C2.g0.1
    | j + 1, hj => simp at hj⟩
  have HP : Hid (SK front Bp w (.slice (some ⟨bp, po, none⟩) p.length cap) p) := hp
  have HOK : Hid (okP p = true) := hok
  have HSP : Hid (SmallP p) := hsp
  have HSU : Hid (SupOk p p.length) := hsup
  have HPR : Hid (∀ x, Below W.heap.size W x → SK front Bp x (.slice (some ⟨bp, po, none⟩) p.length cap) p ∧ Cells x w.heap.size [.slice (some ⟨bp, po, none⟩) p.length cap] ∧ Below w.heap.size w x) := fun x hx => ⟨SK.on hp (Keep.of (below_over hwW hx)), P0.out.on hx, below_over hwW hx⟩
  have HB0 : Hid (w.heap.size ≤ W.heap.size) := hwW.size
  clear hp hok hsp hsup C1 C2
  go_enter Tryz.func25, Tryz.ntmps25
  go_wp2
  rw [← hW]
  clear hW
  go_loopw [4, 5] (fun s4 s5 wr => ∃ (M L : List Int), Hid (SndR p M L) ∧ Hid (LstB w.heap.size wr s4 M) ∧ Hid (LstB w.heap.size wr s5 L) ∧ lenV s4 = M.length ∧ lenV s5 = L.length ∧ Below W.heap.size W wr) (fun s4 s5 _ => 126 - (lenV s4 + lenV s5))
  case atStart => exact ⟨[0], [0], SndR.start p, L1.out, L2.out, rfl, rfl, Below.refl _ _⟩
  case round =>
    clear L1 L2
    obtain ⟨M0, L0, hS0, hl4, hl5, hn4, hn5, hb0⟩ := hrel
    obtain ⟨g4, c4, rfl, hc4, hg4, hgw4, hi4⟩ := hl4.out
    obtain ⟨g5, c5, rfl, hc5, hg5, hgw5, hi5⟩ := hl5.out
    have hM6 := hS0.out.lenM HOK.out
    have hL120 := hS0.out.lenL HOK.out
    have HSW0 : Hid (Swe p M0 L0 M0 L0 (AskK p M0 L0 0)) := Swe.start hS0.out fun j hj => absurd hj (Nat.not_lt_zero j)
    clear hc4 hg4 hgw4 hi4 hc5 hg5 hgw5 hi5 hn4 hn5
    go_wp2
    go_loopw [4, 5, 7] (fun s4 s5 s7 wr => ∃ (k : Nat) (M L : List Int), s7 = .int .i64 (k : Int) ∧ k ≤ L.length ∧ Hid (Swe p M0 L0 M L (AskK p M0 L0 k)) ∧ Hid (LstB w.heap.size wr s4 M) ∧ Hid (LstB w.heap.size wr s5 L) ∧ Below W.heap.size W wr) (fun _ _ s7 _ => 121 - (intOf s7).toNat)
    case atStart => exact ⟨0, M0, L0, rfl, Nat.zero_le _, HSW0.out, hl4.out, hl5.out, hb0⟩
    case round =>
      clear hl4 hl5 hb0 HSW0
      obtain ⟨k, M, L, rfl, hk, hSW, hl4, hl5, hb⟩ := hrel
      obtain ⟨g4, c4, rfl, hc4, hg4, hgw4, hi4⟩ := hl4.out
      obtain ⟨g5, c5, rfl, hc5, hg5, hgw5, hi5⟩ := hl5.out
      have hM6' := hSW.out.snd.lenM HOK.out
      have hL120' := hSW.out.snd.lenL HOK.out
      have I4 : Hid (IRow wr g4 0 M) := hi4
      have I5 : Hid (IRow wr g5 0 L) := hi5
      clear hi4 hi5
      by_cases hlt : k < L.length
      · have hki : (k : Int) < (L.length : Int) := by omega
        have hLk : L[k]? = some L[k] := List.getElem?_eq_getElem hlt
        obtain ⟨c, n, hx, hn20, hcl, hrd, cl, own, hcl2, hown⟩ := hSW.out.snd.atL HOK.out (List.getElem_mem hlt)
        have hxn : L[k] = ((c * 20 + n : Nat) : Int) := by rw [hx]; omega
        rw [hxn] at hLk
        have cx := I5.out k _ hLk
        rw [Nat.zero_add] at cx
        have hq1 : (((c * 20 + n : Nat)) : Int).tdiv 20 = (c : Int) := by
          rw [show ((20 : Int)) = ((20 : Nat) : Int) from rfl, ← Int.ofNat_tdiv]
          congr 1; omega
        have hq2 : (((c * 20 + n : Nat)) : Int).tmod 20 = (n : Int) := by
          rw [show ((20 : Int)) = ((20 : Nat) : Int) from rfl, ← Int.ofNat_tmod]
          congr 1; omega
        generalize hxx : c * 20 + n = xx at *
        obtain ⟨hsk, hpc, _⟩ := HPR.out _ hb
        have hcls : p[c] = cl := by have := List.getElem?_eq_getElem hcl; rw [hcl2] at this; exact (Option.some.inj this).symm
        obtain ⟨b', o', he', _, vf, vm, d0, d1, d2, hcv⟩ := hsk.get hcl
        simp only [Option.some.injEq, Addr.mk.injEq, and_true] at he'
        obtain ⟨rfl, rfl⟩ := he'
        rw [hcls] at d0 hcv
        obtain ⟨z1, t1, rfl⟩ := hcv.1.form
        obtain ⟨z2, t2, rfl⟩ := hcv.2.form
        have hsl : cl.meths.length ≤ 1048576 := by have := (HSP.out.2 _ (List.getElem_mem hcl)).2.1; rwa [hcls] at this
        obtain ⟨jm, mm, hjm, hjmm, hoi, hoo⟩ : ∃ jm mm, jm < cl.meths.length ∧ cl.meths[jm]? = some mm ∧ ownI cl (n : Int) = (jm : Int) ∧ ownF cl (n : Int) = some mm := by
          rcases ownI_cases cl (n : Int) with ⟨_, h⟩ | h
          · rw [hown] at h; simp at h
          · exact h
        obtain rfl : mm = own := by rw [hown] at hoo; exact (Option.some.inj hoo).symm
        have hmeq : cl.meths[jm] = mm := by have := List.getElem?_eq_getElem hjm; rw [hjmm] at this; exact (Option.some.inj this).symm
        obtain ⟨b2, o2, rfl, _, va, vc, m0, m1, m2, m3, hmv⟩ := hcv.2.get hjm
        rw [hmeq] at m0 m2 hmv
        obtain ⟨gc, cc, rfl, _, hgc, hrow, _⟩ := hmv.2
        have HRW : Hid (Row wr gc 0 mm.code) := hrow
        have HCD : Hid (Lay.codeOk mm.code = true) := own_code HOK.out hcl2 hown
        have HSM : Hid (SM front Bp wr (.slice (some ⟨b2, o2, none⟩) cl.meths.length t2) cl.meths) := hcv.2
        have hcall := fun u (hu : Below wr.heap.size wr u) => l4Own Bp cl z1 (some ⟨b2, o2, none⟩) t2 cl.fields.length t1 (n : Int) hsl u (SM.on HSM.out (Keep.of hu))
        rw [hoi] at hcall
        have hci : (c : Int) < (p.length : Int) := by omega
        have hjmi : (jm : Int) < (cl.meths.length : Int) := by omega
        have q0 := cell_regrown hpc.g0.1
        have q1 := cell_regrown d0
        have q2 := cell_regrown d1
        have q3 := cell_regrown d2
        have q4 := cell_regrown cx
        have q5 := cell_regrown m3
        have cQ : ∀ d os, Calls Tryz.prog 42 #[.agg #[.int .i64 cl.super, .slice z1 cl.fields.length t1, .slice (some ⟨b2, o2, none⟩) cl.meths.length t2], .int .i64 (n : Int)] (Sort.grow (redrawn wr d) os) fun e w'' => e = .returned (.int .i64 (jm : Int)) ∧ ∃ p : Regrown, w'' = Sort.grow (redrawn wr p.d) p.os := fun d os => (hcall _ (below_regrown wr d os)).regrown_of
        have hown' := hown
        clear hcall hcv hmv hsk hrow m0 m1 m2 hoo hown hoi HSM
        go_upto_region 8 with fail
        refine wp_region_quiet_below (by kernel_rfl) (by kernel_rfl) ?_
        repeat (go_big_quiet_step ((go_at_call 42; exact cQ _ _)))
        refine wpQuiet_nil ?_
        intro _ hw'
        obtain ⟨⟨dq, osq⟩, hw''⟩ := hw'
        subst hw''
        have hbq := below_regrown wr dq osq
        have hbv : Below W.heap.size W (Sort.grow (redrawn wr dq) osq) := below_over hb hbq
        have HRV : Hid (Row (Sort.grow (redrawn wr dq) osq) gc 0 mm.code) := HRW.out.on hbq
        have HL4 : Hid (LstB w.heap.size (Sort.grow (redrawn wr dq) osq) (.slice (some ⟨g4, 0, none⟩) M.length c4) M) := hl4.out.on hbq
        have HL5 : Hid (LstB w.heap.size (Sort.grow (redrawn wr dq) osq) (.slice (some ⟨g5, 0, none⟩) L.length c5) L) := hl5.out.on hbq
        clear q0 q1 q2 q3 q4 q5 cQ hbq hpc d0 d1 d2 m3 cx I4 I5 hl4 hl5 HRW hb hki hx hxn
        generalize Sort.grow (redrawn wr dq) osq = V at *
        have h40 := (Lay.ok_len HCD.out).2
        go_wp2_with fail
        refine (l9Reached_at gc cc mm.code HCD.out V HRV.out).mono ?_
        rintro e w1 ⟨x, rfl, ⟨gr, cr, rfl, _, _, hir⟩, hb1⟩
        have HIR : Hid (IRow w1 gr 0 (risL (rchB mm.code) 40)) := hir
        have HRW1 : Hid (Row w1 gc 0 mm.code) := HRV.out.on hb1
        have hl41 : Hid (LstB w.heap.size w1 (.slice (some ⟨g4, 0, none⟩) M.length c4) M) := HL4.out.on hb1
        have hl51 : Hid (LstB w.heap.size w1 (.slice (some ⟨g5, 0, none⟩) L.length c5) L) := HL5.out.on hb1
        have hbw1 : Below W.heap.size W w1 := below_over hbv hb1
        have hr40 : (risL (rchB mm.code) 40).length ≤ 40 := rise_fits (risL_rise _ _) fun x hx => by obtain ⟨j, hj, _, rfl⟩ := risL_mem.1 hx; omega
        have HSJ : Hid (Swe p M0 L0 M L ((AskK p M0 L0 k ∧ L0[k]? = some ((xx : Nat) : Int)) ∧ AskJ p M0 L0 mm.code 0)) := ⟨hSW.out.snd, hSW.out.subM, hSW.out.subL, hSW.out.leM, hSW.out.leL, fun e => by
          obtain ⟨_, e2, q⟩ := hSW.out.same hS0.out e
          exact ⟨⟨q, by rw [← e2]; exact hLk⟩, fun j hj => absurd hj (Nat.not_lt_zero j)⟩⟩
        have HRUN : Hid (∀ t : Nat, ((t : Nat) : Int) ∈ risL (rchB mm.code) 40 → t < mm.code.length ∧ Runs p c (n : Int) (insF mm.code t)) := fun t ht => by
          obtain ⟨j, hj, hjr, hje⟩ := risL_mem.1 ht
          obtain rfl : t = j := by omega
          have hlt := (rchB_iff.1 hjr).lt (Lay.ok_len HCD.out).1
          exact ⟨hlt, cl, mm, t, hcl2, hown', hlt, hjr, rfl⟩
        have HNX : Hid (∀ {M L : List Int}, Swe p M0 L0 M L ((AskK p M0 L0 k ∧ L0[k]? = some ((xx : Nat) : Int)) ∧ AskJ p M0 L0 mm.code (risL (rchB mm.code) 40).length) → Swe p M0 L0 M L (AskK p M0 L0 (k + 1))) := fun h => h.weak fun ⟨⟨hq, hx'⟩, hj⟩ => by
          rw [← hxx] at hx'
          exact hq.next HOK.out hx' hn20 hcl2 hown' hj
        have HAT : Hid (∀ j x, (risL (rchB mm.code) 40)[j]? = some x → ∃ t : Nat, x = (t : Int) ∧ t < mm.code.length ∧ Runs p c (n : Int) (insF mm.code t)) := fun j x hx => by
          have hm := List.mem_of_getElem? hx
          obtain ⟨t, _, _, rfl⟩ := risL_mem.1 hm
          exact ⟨t, rfl, HRUN.out t hm⟩
        have HNXJ : Hid (∀ (Q : Prop) (M L : List Int) (j t : Nat), (risL (rchB mm.code) 40)[j]? = some ((t : Nat) : Int) → Swe p M0 L0 M L (Q ∧ AskJ p M0 L0 mm.code j) → Swe p M0 L0 M L (AskJ p M0 L0 mm.code j → Stp p M0 L0 (insF mm.code t)) → Swe p M0 L0 M L (Q ∧ AskJ p M0 L0 mm.code (j + 1))) := fun Q M L j t ht h1 h2 =>
          ⟨h1.snd, h1.subM, h1.subL, h1.leM, h1.leL, fun e => ⟨(h1.asks e).1, (h1.asks e).2.next ht (h2.asks e (h1.asks e).2)⟩⟩
        have hkl : k + 1 ≤ L.length := hlt
        clear hb1 hir HL4 HL5 HRV hbv hSW hlt hLk HRUN hq1 hq2 hxx hown' hjm hjmm hmeq hjmi hci hcls hgc hc4 hg4 hgw4 hc5 hg5 hgw5 hk
        have hrd' : Hid (Rd p true c (n : Int)) := hrd
        clear hrd
        generalize hQQ : (AskK p M0 L0 k ∧ L0[k]? = some ((xx : Nat) : Int)) = QQ at *
        generalize hrs : risL (rchB mm.code) 40 = rs at *
        clear hQQ hrs
        go_wp2
        go_loopw [4, 5, 11] (fun s4 s5 s11 wr => ∃ (j : Nat) (M L : List Int), s11 = .int .i64 (j : Int) ∧ j ≤ rs.length ∧ k + 1 ≤ L.length ∧ Hid (Swe p M0 L0 M L (QQ ∧ AskJ p M0 L0 mm.code j)) ∧ Hid (LstB w.heap.size wr s4 M) ∧ Hid (LstB w.heap.size wr s5 L) ∧ Below w1.heap.size w1 wr) (fun _ _ s11 _ => rs.length - (intOf s11).toNat)
        case atStart => exact ⟨0, M, L, rfl, Nat.zero_le _, hkl, HSJ.out, hl41.out, hl51.out, Below.refl _ _⟩
        case round =>
          clear HSJ hl41 hl51 hkl hM6' hL120'
          obtain ⟨j, M, L, rfl, hj, hkl, hSW, hl4, hl5, hb⟩ := hrel
          obtain ⟨g4, c4, rfl, _, _, _, _⟩ := hl4.out
          obtain ⟨g5, c5, rfl, _, _, _, _⟩ := hl5.out
          have hM6 := hSW.out.snd.lenM HOK.out
          have hL120 := hSW.out.snd.lenL HOK.out
          have hbW : Below W.heap.size W wr := below_over hbw1 hb
          by_cases hlt : j < rs.length
          · have hji : (j : Int) < (rs.length : Int) := by omega
            have hrj : rs[j]? = some rs[j] := List.getElem?_eq_getElem hlt
            obtain ⟨t, ht, htl, hrun⟩ := HAT.out j _ hrj
            rw [ht] at hrj
            have cr0 := (HIR.out.on hb) j _ hrj
            rw [Nat.zero_add] at cr0
            obtain ⟨i0, i1, i2⟩ := (HRW1.out.on hb) t _ (ins_is htl)
            have htli : (t : Int) < (mm.code.length : Int) := by omega
            have HNJ : Hid (Swe p M0 L0 M L (AskJ p M0 L0 mm.code j → Stp p M0 L0 (insF mm.code t)) → Swe p M0 L0 M L (QQ ∧ AskJ p M0 L0 mm.code (j + 1))) := fun h => HNXJ.out QQ M L j t hrj hSW.out h
            have HNJ2 : Hid (∀ M L : List Int, Swe p M0 L0 M L (QQ ∧ AskJ p M0 L0 mm.code j) → Swe p M0 L0 M L (AskJ p M0 L0 mm.code j → Stp p M0 L0 (insF mm.code t)) → Swe p M0 L0 M L (QQ ∧ AskJ p M0 L0 mm.code (j + 1))) := fun M L h1 h2 => HNXJ.out QQ M L j t hrj h1 h2
            have HRI : Hid (Runs p c (n : Int) (insF mm.code t)) := hrun
            have HOI : Hid (Tx.okI (insF mm.code t).1 (insF mm.code t).2.1 (insF mm.code t).2.2 = true) := runs_ok HOK.out hrun
            have hpc := (HPR.out _ hbW).2.1.g0.1
            clear hrun ht hlt
            generalize insF mm.code t = ii at *
            obtain ⟨op, A, Bi⟩ := ii
            simp only [Nat.zero_add] at i0 i1 i2
            obtain ⟨V, hV⟩ : ∃ V, V = wr.alloc (.cells #[.int .i64 op, .int .i64 A, .int .i64 Bi] 73) := ⟨_, rfl⟩
            have hwV : Below wr.heap.size wr V := by rw [hV]; exact (Below.refl _ _).alloc (Nat.le_refl _) _
            have CI : Hid (Cells V wr.heap.size [.int .i64 op, .int .i64 A, .int .i64 Bi]) := by rw [hV]; exact Cells.new wr _ rfl _ _
            have hl4V : Hid (LstB w.heap.size V (.slice (some ⟨g4, 0, none⟩) M.length c4) M) := hl4.out.on hwV
            have hl5V : Hid (LstB w.heap.size V (.slice (some ⟨g5, 0, none⟩) L.length c5) L) := hl5.out.on hwV
            have hb1V : Below w1.heap.size w1 V := below_over hb hwV
            have hbWV : Below W.heap.size W V := below_over hbW hwV
            go_upto_region 14 with fail
            rw [← hV]
            clear hV i0 i1 i2 cr0 hpc hl4 hl5 hb hbW
            have HSW : Hid (Swe p M0 L0 M L (QQ ∧ AskJ p M0 L0 mm.code j)) := hSW.out
            clear hSW
            have p0 := (HPR.out _ hbWV).2.1.g0.1
            obtain ⟨j0, _⟩ := CI.out.g0
            obtain ⟨j1, _⟩ := CI.out.g1
            obtain ⟨j2, _⟩ := CI.out.g2
            by_cases hfar : (p.length : Int) ≤ A
            · have HN := hid_of (HNJ.out ⟨HSW.out.snd, HSW.out.subM, HSW.out.subL, HSW.out.leM, HSW.out.leL, fun _ _ => stp_far hfar⟩)
              have hge : A ≥ (p.length : Int) := hfar
              clear HNJ HSW
              go_wp2
              go_roundw
              case rel => exact ⟨j + 1, M, L, by go_num, by omega, hkl, HN.out, hl4V.out, hl5V.out, hb1V⟩
              case measure => simp [intOf]; omega
            · have hAl : A < (p.length : Int) := by omega
              have hnge : ¬ A ≥ (p.length : Int) := hfar
              by_cases h14 : op = 14
              · subst h14
                have hA0 : 0 ≤ A := ins_A HOI.out (.inl rfl)
                obtain ⟨An, rfl⟩ := Int.eq_ofNat_of_zero_le hA0
                have hmade : Hid (Rd p false An 0) := .new hrd'.out HRI.out rfl rfl (by omega)
                have HPM := hid_of (HSW.out.putM hS0.out hmade.out)
                have HN := hid_of (HNJ2.out (putL M (An : Int)) L (HPM.out.weak fun h => h.1) (HPM.out.weak fun h _ => stp_new rfl h.2))
                go_wp2_with fail
                refine (l1PutB w.heap.size M _ (An : Int) (by omega) _ (Nat.le_trans HB0.out hbWV.size) hl4V.out).mono ?_
                rintro e w5 ⟨v', rfl, hlv, hb5⟩
                have HLV : Hid (LstB w.heap.size w5 v' (putL M (An : Int))) := hlv
                have hl5W : Hid (LstB w.heap.size w5 (.slice (some ⟨g5, 0, none⟩) L.length c5) L) := hl5V.out.on hb5
                have hb15 : Below w1.heap.size w1 w5 := below_over hb1V hb5
                clear hlv hb5 HNJ HSW HPM
                go_wp2
                go_roundw
                case rel => exact ⟨j + 1, putL M (An : Int), L, by go_num, by omega, hkl, HN.out, HLV.out, hl5W.out, hb15⟩
                case measure => simp [intOf]; omega
              · by_cases h17 : op = 17
                · subst h17
                  have hA0 : 0 ≤ A := ins_A HOI.out (.inr rfl)
                  have hBn := call_name HOI.out rfl
                  dsimp only at hBn
                  obtain ⟨hBn0, hBn1⟩ := hBn
                  obtain ⟨An, rfl⟩ := Int.eq_ofNat_of_zero_le hA0
                  go_wp2_with fail
                  refine (l5Selected Bp p (some ⟨bp, po, none⟩) cap (An : Int) Bi (by omega) hAl HSP.out h6 HSU.out V (HPR.out _ hbWV).1).mono ?_
                  rintro e w5 ⟨rfl, hb5⟩
                  have HSEL : Hid (∀ sN : Nat, selF p (An : Int) Bi = (sN : Int) → sN < p.length ∧ Rd p true sN Bi) := fun sN h => by
                    obtain ⟨cl', _, h1, _⟩ := sel_there h
                    exact ⟨(List.getElem?_eq_some_iff.1 h1).1, .call hrd'.out HRI.out rfl rfl (by omega) h⟩
                  have HSS : Hid (selF p (An : Int) Bi = selF p (An : Int) Bi) := rfl
                  obtain ⟨s0, hs0⟩ : ∃ s0, s0 = selF p (An : Int) Bi := ⟨_, rfl⟩
                  have HSE : Hid (s0 = selF p (An : Int) Bi) := hs0
                  rw [← hs0] at HSEL ⊢
                  have CI5 : Hid (Cells w5 wr.heap.size [.int .i64 17, .int .i64 (An : Int), .int .i64 Bi]) := CI.out.on hb5
                  have hl4W : Hid (LstB w.heap.size w5 (.slice (some ⟨g4, 0, none⟩) M.length c4) M) := hl4V.out.on hb5
                  have hl5W : Hid (LstB w.heap.size w5 (.slice (some ⟨g5, 0, none⟩) L.length c5) L) := hl5V.out.on hb5
                  have hb15 : Below w1.heap.size w1 w5 := below_over hb1V hb5
                  have hbW5 : Below W.heap.size W w5 := below_over hbWV hb5
                  clear hs0 hb5 hl4V hl5V hb1V j0 j1 j2 p0 CI HSS
                  obtain ⟨j1, _⟩ := CI5.out.g1
                  obtain ⟨j2, _⟩ := CI5.out.g2
                  go_upto_if 92 with fail
                  go_cut [5] from 56 to 130 (fun s5 u => ∃ L', Hid (LstB w.heap.size u s5 L') ∧ L.length ≤ L'.length ∧ Hid (Swe p M0 L0 M L' ((QQ ∧ AskJ p M0 L0 mm.code j) ∧ (0 ≤ s0 → s0 * 20 + Bi ∈ L0))) ∧ Below w5.heap.size w5 u)
                  case first =>
                    by_cases hs : 0 ≤ s0
                    · obtain ⟨sN, rfl⟩ := Int.eq_ofNat_of_zero_le hs
                      obtain ⟨hsl2, hrs⟩ := HSEL.out sN rfl
                      have hge : (sN : Int) ≥ 0 := hs
                      have hPL := HSW.out.putL hS0.out hrs
                      have HPL : Hid (Swe p M0 L0 M (putL L ((sN : Int) * 20 + Bi)) ((QQ ∧ AskJ p M0 L0 mm.code j) ∧ (0 ≤ (sN : Int) → (sN : Int) * 20 + Bi ∈ L0))) := hPL.weak fun h => ⟨h.1, fun _ => h.2⟩
                      have hlen := putL_ge ((sN : Int) * 20 + Bi) L
                      clear hPL hrs
                      go_wp2_with fail
                      refine (l1PutB w.heap.size L _ ((sN : Int) * 20 + Bi) (by omega) _ (Nat.le_trans HB0.out hbW5.size) hl5W.out).mono ?_
                      rintro e w6 ⟨v', rfl, hlv, hb6⟩
                      have HLV : Hid (LstB w.heap.size w6 v' (putL L ((sN : Int) * 20 + Bi))) := hlv
                      clear hlv
                      go_wp2_with fail
                      go_meet
                      exact ⟨_, HLV.out, hlen, HPL.out, hb6⟩
                    · have hge : ¬ s0 ≥ 0 := hs
                      have HPL : Hid (Swe p M0 L0 M L ((QQ ∧ AskJ p M0 L0 mm.code j) ∧ (0 ≤ s0 → s0 * 20 + Bi ∈ L0))) := HSW.out.weak fun h => ⟨h, fun h => absurd h hs⟩
                      go_wp2_with fail
                      go_meet
                      exact ⟨L, hl5W.out, Nat.le_refl _, HPL.out, Below.refl _ _⟩
                  case rest =>
                    obtain ⟨L', hlL, hlen, hSP, hbc⟩ := hcut
                    have hbW6 : Below W.heap.size W wc := below_over hbW5 hbc
                    have hb16 : Below w1.heap.size w1 wc := below_over hb15 hbc
                    have CI6 : Hid (Cells wc wr.heap.size [.int .i64 17, .int .i64 (An : Int), .int .i64 Bi]) := CI5.out.on hbc
                    have hl46 : Hid (LstB w.heap.size wc (.slice (some ⟨g4, 0, none⟩) M.length c4) M) := hl4W.out.on hbc
                    clear j1 j2 CI5 hl4W hl5W hb15 hbW5 hbc HSW HNJ
                    have hk1 : k + 1 ≤ L'.length := by omega
                    obtain ⟨g5', c5', rfl, _, _, _, _⟩ := hlL.out
                    obtain ⟨ga, ca, hea, _, _, _, hia⟩ := hl46.out
                    simp only [Value.slice.injEq, Option.some.injEq, Addr.mk.injEq, and_true, true_and] at hea
                    obtain ⟨rfl, rfl⟩ := hea
                    have I46 : Hid (IRow wc g4 0 M) := hia
                    have HSNM : Hid (∀ x ∈ M, ∃ c : Nat, x = (c : Int) ∧ Rd p false c 0) := hSP.out.snd.sm
                    obtain ⟨Q1, hQ1⟩ : ∃ Q1 : Prop, Q1 = ((QQ ∧ AskJ p M0 L0 mm.code j) ∧ (0 ≤ s0 → s0 * 20 + Bi ∈ L0)) := ⟨_, rfl⟩
                    have HQ4 : Hid (Swe p M0 L0 M L' (Q1 ∧ AskB p M0 L0 (An : Int) Bi 0)) := hSP.out.weak fun h => ⟨by rw [hQ1]; exact h, fun a ha => absurd ha (Nat.not_lt_zero a)⟩
                    have HEND : Hid (∀ L2 : List Int, Swe p M0 L0 M L2 (Q1 ∧ AskB p M0 L0 (An : Int) Bi M.length) → Swe p M0 L0 M L2 (QQ ∧ AskJ p M0 L0 mm.code (j + 1))) := fun L2 h => by
                      rw [hQ1] at h
                      refine HNJ2.out M L2 (h.weak fun q => q.1.1) ⟨h.snd, h.subM, h.subL, h.leM, h.leL, fun e _ => ?_⟩
                      obtain ⟨e1, _, q⟩ := h.same hS0.out e
                      refine stp_call rfl ?_ ?_
                      · have := q.1.2
                        rw [HSE.out] at this
                        exact this
                      · have := q.2
                        rwa [e1] at this
                    clear hQ1 hSP hlen hia HNJ2
                    go_wp2
                    go_loopw [5, 14] (fun s5 s14 wr => ∃ (b : Nat) (L2 : List Int), s14 = .int .i64 (b : Int) ∧ b ≤ M.length ∧ k + 1 ≤ L2.length ∧ Hid (Swe p M0 L0 M L2 (Q1 ∧ AskB p M0 L0 (An : Int) Bi b)) ∧ Hid (LstB w.heap.size wr s5 L2) ∧ Below wc.heap.size wc wr) (fun _ s14 _ => M.length - (intOf s14).toNat)
                    case atStart => exact ⟨0, L', rfl, Nat.zero_le _, hk1, HQ4.out, hlL.out, Below.refl _ _⟩
                    case round =>
                      clear HQ4 hlL hk1
                      obtain ⟨b, L2, rfl, hbM, hkl2, hSQ, hl5x, hbx⟩ := hrel
                      obtain ⟨g5, c5, rfl, _, _, _, _⟩ := hl5x.out
                      have hL2 := hSQ.out.snd.lenL HOK.out
                      have hbWx : Below W.heap.size W wr := below_over hbW6 hbx
                      by_cases hlt : b < M.length
                      · have hbi : (b : Int) < (M.length : Int) := by omega
                        have hMb : M[b]? = some M[b] := List.getElem?_eq_getElem hlt
                        obtain ⟨dN, hd, hrdm⟩ := HSNM.out _ (List.getElem_mem hlt)
                        rw [hd] at hMb
                        have hdl := (rd_there HOK.out hrdm).1 rfl
                        have cm := (I46.out.on hbx) b _ hMb
                        rw [Nat.zero_add] at cm
                        have HBN : Hid (∀ (L3 : List Int) (X : Prop), Swe p M0 L0 M L3 ((Q1 ∧ AskB p M0 L0 (An : Int) Bi b) ∧ X) → (X → undB p (dN : Int) (An : Int) = true → 0 ≤ selF p (dN : Int) Bi → selF p (dN : Int) Bi * 20 + Bi ∈ L0) → Swe p M0 L0 M L3 (Q1 ∧ AskB p M0 L0 (An : Int) Bi (b + 1))) := fun L3 X h hX =>
                          ⟨h.snd, h.subM, h.subL, h.leM, h.leL, fun e => by
                            obtain ⟨e1, _, q⟩ := h.same hS0.out e
                            refine ⟨q.1.1, q.1.2.next fun d hd' hu' hs' => ?_⟩
                            rw [← e1, hMb] at hd'
                            injection hd' with hd'
                            subst hd'
                            exact hX q.2 hu' hs'⟩
                        have HRM : Hid (Rd p false dN 0) := hrdm
                        have p0 := (HPR.out _ hbWx).2.1.g0.1
                        obtain ⟨j1, _⟩ := (CI6.out.on hbx).g1
                        obtain ⟨j2, _⟩ := (CI6.out.on hbx).g2
                        have q0 := cell_regrown p0
                        have q1 := cell_regrown j1
                        have q3 := cell_regrown cm
                        have cU : ∀ d os, Calls Tryz.prog 47 #[.agg #[.slice (some ⟨bp, po, none⟩) p.length cap], .int .i64 (dN : Int), .int .i64 (An : Int)] (Sort.grow (redrawn wr d) os) fun e w'' => e = .returned (.bool (undB p (dN : Int) (An : Int))) ∧ ∃ p : Regrown, w'' = Sort.grow (redrawn wr p.d) p.os := fun d os => (l5Under Bp p (some ⟨bp, po, none⟩) cap (dN : Int) (An : Int) (by omega) (by omega) h6 HSU.out _ (HPR.out _ (below_over hbWx (below_regrown wr d os))).1).regrown_of
                        clear hd hrdm
                        go_upto_region 25 with fail
                        refine wp_region_quiet_below (by kernel_rfl) (by kernel_rfl) ?_
                        repeat (go_big_quiet_step ((go_at_call 47; exact cU _ _)))
                        refine wpQuiet_nil ?_
                        intro _ hw'
                        obtain ⟨⟨dq, osq⟩, hw''⟩ := hw'
                        subst hw''
                        have hbq := below_regrown wr dq osq
                        have hbx2 : Below wc.heap.size wc (Sort.grow (redrawn wr dq) osq) := below_over hbx hbq
                        have hl52 : Hid (LstB w.heap.size (Sort.grow (redrawn wr dq) osq) (.slice (some ⟨g5, 0, none⟩) L2.length c5) L2) := hl5x.out.on hbq
                        have cm2 := (hbq.cell (p := ⟨g4, b, none⟩) (cell_lt cm)).trans cm
                        clear q0 q1 q3 cU p0 j1 j2 cm hbq hl5x hbx hbWx
                        generalize Sort.grow (redrawn wr dq) osq = V2 at *
                        have hbW2 : Below W.heap.size W V2 := below_over hbW6 hbx2
                        cases hu : undB p (dN : Int) (An : Int)
                        · have HN := hid_of (HBN.out L2 True (hSQ.out.weak fun h => ⟨h, trivial⟩) fun _ h => absurd h (by rw [hu]; simp))
                          clear hu HBN
                          go_wp2
                          go_roundw
                          case rel => exact ⟨b + 1, L2, by go_num, by omega, hkl2, HN.out, hl52.out, hbx2⟩
                          case measure => simp [intOf]; omega
                        · have HU : Hid (undB p (dN : Int) (An : Int) = true) := hu
                          have p0 := (HPR.out _ hbW2).2.1.g0.1
                          obtain ⟨j2, _⟩ := (CI6.out.on hbx2).g2
                          have q0 := cell_regrown p0
                          have q1 := cell_regrown j2
                          have q3 := cell_regrown cm2
                          obtain ⟨t0, ht0⟩ : ∃ t0, t0 = selF p (dN : Int) Bi := ⟨_, rfl⟩
                          have HT0 : Hid (t0 = selF p (dN : Int) Bi) := ht0
                          have cS : ∀ d os, Calls Tryz.prog 46 #[.agg #[.slice (some ⟨bp, po, none⟩) p.length cap], .int .i64 (dN : Int), .int .i64 Bi] (Sort.grow (redrawn V2 d) os) fun e w'' => e = .returned (.int .i64 t0) ∧ ∃ p : Regrown, w'' = Sort.grow (redrawn V2 p.d) p.os := fun d os => by
                            rw [ht0]
                            exact (l5Selected Bp p (some ⟨bp, po, none⟩) cap (dN : Int) Bi (by omega) (by omega) HSP.out h6 HSU.out _ (HPR.out _ (below_over hbW2 (below_regrown V2 d os))).1).regrown_of
                          clear hu ht0
                          go_upto_region 26 with fail
                          refine wp_region_quiet_below (by kernel_rfl) (by kernel_rfl) ?_
                          repeat (go_big_quiet_step ((go_at_call 46; exact cS _ _)))
                          refine wpQuiet_nil ?_
                          intro _ hw'
                          obtain ⟨⟨dq2, osq2⟩, hw''⟩ := hw'
                          subst hw''
                          have hbq := below_regrown V2 dq2 osq2
                          have hbx3 : Below wc.heap.size wc (Sort.grow (redrawn V2 dq2) osq2) := below_over hbx2 hbq
                          have hl53 : Hid (LstB w.heap.size (Sort.grow (redrawn V2 dq2) osq2) (.slice (some ⟨g5, 0, none⟩) L2.length c5) L2) := hl52.out.on hbq
                          clear q0 q1 q3 cS p0 j2 cm2 hbq hl52 hbx2 hbW2
                          generalize Sort.grow (redrawn V2 dq2) osq2 = V3 at *
                          have hbW3 : Below W.heap.size W V3 := below_over hbW6 hbx3
                          by_cases hs : 0 ≤ t0
                          · obtain ⟨sN, rfl⟩ := Int.eq_ofNat_of_zero_le hs
                            have hrs : Hid (Rd p true sN Bi) := .meet hrd'.out HRI.out rfl rfl (by omega) HRM.out HU.out HT0.out.symm
                            have hsl2 : sN < p.length := by
                              obtain ⟨_, _, h1, _⟩ := sel_there HT0.out.symm
                              exact (List.getElem?_eq_some_iff.1 h1).1
                            have hge : (sN : Int) ≥ 0 := hs
                            have HPL := hid_of (hSQ.out.putL hS0.out hrs.out)
                            have HN := hid_of (HBN.out _ _ HPL.out fun h _ _ => by rw [← HT0.out]; exact h)
                            have hlen := putL_ge ((sN : Int) * 20 + Bi) L2
                            obtain ⟨j2, _⟩ := (CI6.out.on hbx3).g2
                            clear HPL HBN
                            go_wp2_with fail
                            refine (l1PutB w.heap.size L2 _ ((sN : Int) * 20 + Bi) (by omega) _ (Nat.le_trans HB0.out hbW3.size) hl53.out).mono ?_
                            rintro e w6 ⟨v', rfl, hlv, hb6⟩
                            have HLV : Hid (LstB w.heap.size w6 v' (putL L2 ((sN : Int) * 20 + Bi))) := hlv
                            have hbx4 : Below wc.heap.size wc w6 := below_over hbx3 hb6
                            clear hlv hb6 j2
                            go_wp2
                            go_roundw
                            case rel => exact ⟨b + 1, _, by go_num, by omega, by omega, HN.out, HLV.out, hbx4⟩
                            case measure => simp [intOf]; omega
                          · have hge : ¬ t0 ≥ 0 := hs
                            have HN := hid_of (HBN.out L2 True (hSQ.out.weak fun h => ⟨h, trivial⟩) fun _ _ h => absurd h (by rw [← HT0.out]; exact hs))
                            clear HBN
                            go_wp2
                            go_roundw
                            case rel => exact ⟨b + 1, L2, by go_num, by omega, hkl2, HN.out, hl53.out, hbx3⟩
                            case measure => simp [intOf]; omega
                      · obtain rfl : b = M.length := by omega
                        have hbi : ¬ ((M.length : Nat) : Int) < ((M.length : Nat) : Int) := by omega
                        have HN := hid_of (HEND.out L2 hSQ.out)
                        have hl4x : Hid (LstB w.heap.size wr (.slice (some ⟨g4, 0, none⟩) M.length c4) M) := hl46.out.on hbx
                        have hb17 : Below w1.heap.size w1 wr := below_over hb16 hbx
                        clear hlt hSQ HEND
                        go_wp2
                        go_roundw
                        case rel => exact ⟨j + 1, M, L2, by go_num, by omega, hkl2, HN.out, hl4x.out, hl5x.out, hb17⟩
                        case measure => simp [intOf]; omega
                · have hb14 : (op == 14) = false := by simpa using h14
                  have hb17 : (op == 17) = false := by simpa using h17
                  have HN := hid_of (HNJ.out ⟨HSW.out.snd, HSW.out.subM, HSW.out.subL, HSW.out.leM, HSW.out.leL, fun _ _ => stp_other h14 h17⟩)
                  clear HNJ HSW
                  go_wp2
                  go_roundw
                  case rel => exact ⟨j + 1, M, L, by go_num, by omega, hkl, HN.out, hl4V.out, hl5V.out, hb1V⟩
                  case measure => simp [intOf]; omega
          · obtain rfl : j = rs.length := by omega
            have hji : ¬ ((rs.length : Nat) : Int) < ((rs.length : Nat) : Int) := by omega
            have HSN := hid_of (HNX.out hSW.out)
            clear hSW hlt
            go_wp2
            go_roundw
            case rel => exact ⟨k + 1, M, L, by go_num, by omega, HSN.out, hl4.out, hl5.out, hbW⟩
            case measure => simp [intOf]; omega
      · obtain rfl : k = L.length := by omega
        have hki : ¬ ((L.length : Nat) : Int) < ((L.length : Nat) : Int) := by omega
        by_cases hsame : M.length + L.length = M0.length + L0.length
        · have HE : Hid (M = risL (madB p) 6 ∧ L = risL (livB p) 120) := by
            have h3 := hSW.out.same hS0.out hsame
            refine Swe.ends HOK.out hS0.out (hSW.out.weak fun h => ?_) hsame
            rw [← h3.2.1]
            rw [← h3.2.1] at h
            exact h
          have hsb : ((M.length : Int) + (L.length : Int) == (M0.length : Int) + (L0.length : Int)) = true := by simp; omega
          clear hSW hS0
          go_wp2
          refine bodyPost_ret (v := .tuple #[.slice (some ⟨g4, 0, none⟩) M.length c4, .slice (some ⟨g5, 0, none⟩) L.length c5]) (by simp [results, Tryz.results25, go_sem]) rfl ?_
          exact ⟨_, _, rfl, by rw [← HE.out.1]; exact hl4.out, by rw [← HE.out.2]; exact hl5.out, (HPR.out _ hb).2.2⟩
        · have hsb : ((M.length : Int) + (L.length : Int) == (M0.length : Int) + (L0.length : Int)) = false := by simp; omega
          have hle1 := hSW.out.leM
          have hle2 := hSW.out.leL
          have HSN : Hid (SndR p M L) := hSW.out.snd
          clear hSW hS0
          go_wp2
          go_roundw
          case rel => exact ⟨M, L, HSN.out, hl4.out, hl5.out, rfl, rfl, hb⟩
          case measure => simp [lenV]; omega
end Pg
end Go.Proofs.YtinanjjhkddikaaGreat

/- What is reached: the specification's Made and LiveMethods; a class put into a list. -/
namespace Go.Proofs.YtinanjjhkddikaaGreat
namespace Pg
open Go.ChangeShapes Go.WideShapes Go.ChangeAt Go.RowKit St Wd

theorem lstB_empty {B : Nat} {w : World} (hB : B ≤ w.heap.size) (t : TypeId) : LstB B (w.alloc (.cells #[] t)) (.slice (some ⟨w.heap.size, 0, none⟩) 0 0) [] :=
  ⟨_, 0, rfl, Nat.le_refl _, hB, by simp, fun j x hj => by simp at hj⟩
set_option maxRecDepth 100000 in
set_option maxHeartbeats 2000000 in
theorem specMade_at (B : Nat) (p : Prg) (a : Option Addr) (cap : Nat) (hsp : SmallP p) (w : World) (hp : SK front B w (.slice a p.length cap) p) :
    Calls Tryz.prog 8 #[.agg #[.slice a p.length cap]] w fun e w' => ∃ x, e = .returned x ∧ LstB w.heap.size w' x (madL p) ∧ Below w.heap.size w w' := by
  obtain ⟨W, hW⟩ : ∃ W, W = w.alloc (.cells #[.slice a p.length cap] 30) := ⟨_, rfl⟩
  have hwW : Below w.heap.size w W := by rw [hW]; exact (Below.refl _ _).alloc (Nat.le_refl _) _
  have P0 : Hid (Cells W w.heap.size [.slice a p.length cap]) := by rw [hW]; exact Cells.new w _ rfl _ _
  have HP : Hid (SK front B w (.slice a p.length cap) p) := hp
  have HSP : Hid (SmallP p) := hsp
  clear hp hsp
  go_enter Tryz.func8, Tryz.ntmps8
  have p0 := P0.out.g0.1
  go_upto_region 1 with fail
  rw [← hW]
  clear hW
  go_wp2_with fail
  refine (specProgramOk B p a cap HSP.out W (SK.on HP.out (Keep.of hwW))).mono ?_
  rintro e w1 ⟨rfl, hb1⟩
  have hw1 : Below w.heap.size w w1 := below_over hwW hb1
  clear p0
  have p0 := (P0.out.on hb1).g0.1
  cases hok : okP p
  · have HE : Hid (madL p = []) := by show _ = _; simp [madL, hok]
    clear hok
    go_wp2
    go_ret
    exact ⟨_, rfl, by rw [HE.out]; exact lstB_empty hw1.size _, hw1.alloc hw1.size _⟩
  · have HE : Hid (madL p = risL (madB p) 6) := by show _ = _; simp [madL, hok]
    have HOK : Hid (okP p = true) := hok
    have hpl := (okP_len hok).1
    obtain ⟨bp, po, rfl, _⟩ := HP.out.get (k := 0) (by omega)
    clear hok
    go_wp2_with fail
    refine (l14Reach_at B p bp po cap HOK.out HSP.out w1 (SK.on HP.out (Keep.of hw1))).mono ?_
    rintro e w2 ⟨v1, v2, rfl, h1, h2, hb2⟩
    have H1 : Hid (LstB w1.heap.size w2 v1 (risL (madB p) 6)) := h1
    have hw2 : Below w.heap.size w w2 := below_over hw1 hb2
    have hz1 := hw1.size
    clear h1 h2 hb2
    go_wp2
    go_ret
    refine ⟨_, rfl, ?_, hw2⟩
    rw [HE.out]
    obtain ⟨g, c, hv, hc, hg, hl, hi⟩ := H1.out
    exact ⟨g, c, hv, hc, by omega, hl, hi⟩
set_option maxRecDepth 100000 in
set_option maxHeartbeats 2000000 in
theorem specLive_at (B : Nat) (p : Prg) (a : Option Addr) (cap : Nat) (hsp : SmallP p) (w : World) (hp : SK front B w (.slice a p.length cap) p) :
    Calls Tryz.prog 16 #[.agg #[.slice a p.length cap]] w fun e w' => ∃ x, e = .returned x ∧ LstB w.heap.size w' x (livR p) ∧ Below w.heap.size w w' := by
  obtain ⟨W, hW⟩ : ∃ W, W = w.alloc (.cells #[.slice a p.length cap] 30) := ⟨_, rfl⟩
  have hwW : Below w.heap.size w W := by rw [hW]; exact (Below.refl _ _).alloc (Nat.le_refl _) _
  have P0 : Hid (Cells W w.heap.size [.slice a p.length cap]) := by rw [hW]; exact Cells.new w _ rfl _ _
  have HP : Hid (SK front B w (.slice a p.length cap) p) := hp
  have HSP : Hid (SmallP p) := hsp
  clear hp hsp
  go_enter Tryz.func16, Tryz.ntmps16
  have p0 := P0.out.g0.1
  go_upto_region 1 with fail
  rw [← hW]
  clear hW
  go_wp2_with fail
  refine (specProgramOk B p a cap HSP.out W (SK.on HP.out (Keep.of hwW))).mono ?_
  rintro e w1 ⟨rfl, hb1⟩
  have hw1 : Below w.heap.size w w1 := below_over hwW hb1
  clear p0
  have p0 := (P0.out.on hb1).g0.1
  cases hok : okP p
  · have HE : Hid (livR p = []) := by show _ = _; simp [livR, hok]
    clear hok
    go_wp2
    go_ret
    exact ⟨_, rfl, by rw [HE.out]; exact lstB_empty hw1.size _, hw1.alloc hw1.size _⟩
  · have HE : Hid (livR p = risL (livB p) 120) := by show _ = _; simp [livR, hok]
    have HOK : Hid (okP p = true) := hok
    have hpl := (okP_len hok).1
    obtain ⟨bp, po, rfl, _⟩ := HP.out.get (k := 0) (by omega)
    clear hok
    go_wp2_with fail
    refine (l14Reach_at B p bp po cap HOK.out HSP.out w1 (SK.on HP.out (Keep.of hw1))).mono ?_
    rintro e w2 ⟨v1, v2, rfl, h1, h2, hb2⟩
    have H2 : Hid (LstB w1.heap.size w2 v2 (risL (livB p) 120)) := h2
    have hw2 : Below w.heap.size w w2 := below_over hw1 hb2
    have hz1 := hw1.size
    clear h1 h2 hb2
    go_wp2
    go_ret
    refine ⟨_, rfl, ?_, hw2⟩
    rw [HE.out]
    obtain ⟨g, c, hv, hc, hg, hl, hi⟩ := H2.out
    exact ⟨g, c, hv, hc, by omega, hl, hi⟩
end Pg
end Go.Proofs.YtinanjjhkddikaaGreat

/- Contracts of the laws' own marking of programs: what it leaves alone. -/
namespace Go.Proofs.YtinanjjhkddikaaGreat
namespace Pg
open Go.ChangeShapes Go.WideShapes Go.ChangeAt Go.RowKit St

/-- From u to v numbers alone have turned, in blocks from B1 on and below B2. -/
structure Mrk (B1 B2 : Nat) (u v : World) : Prop where
  os : v.os = u.os
  tape : v.tape = u.tape
  output : v.output = u.output
  size : u.heap.size ≤ v.heap.size
  far : ∀ k, k < u.heap.size → (k < B1 ∨ B2 ≤ k) → v.heap[k]? = u.heap[k]?
  cell : ∀ p : Addr, p.block < u.heap.size → v.cell? p = u.cell? p ∨ ((∃ x, u.cell? p = some (.int .i64 x)) ∧ ∃ y, v.cell? p = some (.int .i64 y))
  frz : ∀ p : Addr, p.block < u.heap.size → v.frozen? p = u.frozen? p
theorem Mrk.refl (B1 B2 : Nat) (u : World) : Mrk B1 B2 u u := ⟨rfl, rfl, rfl, Nat.le_refl _, fun _ _ _ => rfl, fun _ _ => .inl rfl, fun _ _ => rfl⟩
theorem Mrk.trans {B1 B2 : Nat} {u v w : World} (h : Mrk B1 B2 u v) (k : Mrk B1 B2 v w) : Mrk B1 B2 u w :=
  ⟨k.os.trans h.os, k.tape.trans h.tape, k.output.trans h.output, Nat.le_trans h.size k.size, fun i hi hf => (k.far i (Nat.lt_of_lt_of_le hi h.size) hf).trans (h.far i hi hf), fun p hp => by
    have hp' := Nat.lt_of_lt_of_le hp h.size
    rcases h.cell p hp with h1 | ⟨h1, y, h2⟩
    · rcases k.cell p hp' with k1 | ⟨⟨x, k1⟩, k2⟩
      · exact .inl (k1.trans h1)
      · exact .inr ⟨⟨x, h1 ▸ k1⟩, k2⟩
    · rcases k.cell p hp' with k1 | ⟨_, k2⟩
      · exact .inr ⟨h1, y, k1.trans h2⟩
      · exact .inr ⟨h1, k2⟩, fun p hp => (k.frz p (Nat.lt_of_lt_of_le hp h.size)).trans (h.frz p hp)⟩
theorem Mrk.set {B1 B2 : Nat} (u : World) {p : Addr} (h1 : B1 ≤ p.block) (h2 : p.block < B2) {x : Int} (hx : u.cell? p = some (.int .i64 x)) (y : Int) : Mrk B1 B2 u (u.setCell p (.int .i64 y)) := by
  have hb := (Below.refl 0 u).setCell (p := p) (Nat.zero_le _) (.int .i64 y)
  refine ⟨hb.os, hb.tape, hb.output, hb.size, fun k _ hf => Below.heap_setCell u p _ k (by omega), fun q hq => ?_, fun q _ => by simp⟩
  by_cases e : p = q
  · subst e
    exact .inr ⟨⟨x, hx⟩, y, World.cell?_setCell_same _ _ _ hx⟩
  · exact .inl (World.cell?_setCell_other _ _ _ _ e)
theorem Mrk.of {B1 B2 : Nat} {u v : World} (h : Below u.heap.size u v) : Mrk B1 B2 u v :=
  ⟨h.os, h.tape, h.output, h.size, fun k hk _ => h.block k hk, fun _ hp => .inl (h.cell hp), fun _ hp => h.frozen hp⟩
theorem Mrk.below {B1 B2 B : Nat} {u v : World} (h : Mrk B1 B2 u v) (hB : B ≤ B1) (hu : B ≤ u.heap.size) : Below B u v :=
  ⟨h.os, h.tape, h.output, h.size, fun k hk => h.far k (by omega) (.inl (by omega))⟩
theorem Mrk.keep {B1 B2 : Nat} {u v : World} (h : Mrk B1 B2 u v) : Keep B2 u v := ⟨h.size, fun k hk hl => h.far k hl (.inr hk)⟩
theorem Mrk.slice {B1 B2 : Nat} {u v : World} (h : Mrk B1 B2 u v) {p : Addr} {a : Option Addr} {n c : Nat} (hp : u.cell? p = some (.slice a n c)) : v.cell? p = some (.slice a n c) := by
  rcases h.cell p (cell_lt hp) with h1 | ⟨⟨x, h1⟩, _⟩
  · exact h1.trans hp
  · rw [hp] at h1; simp at h1
theorem Mrk.int {B1 B2 : Nat} {u v : World} (h : Mrk B1 B2 u v) {p : Addr} {x : Int} (hp : u.cell? p = some (.int .i64 x)) : ∃ y, v.cell? p = some (.int .i64 y) := by
  rcases h.cell p (cell_lt hp) with h1 | ⟨_, h2⟩
  · exact ⟨x, h1.trans hp⟩
  · exact h2
/-- A number that may be written. -/
def NumW (w : World) (p : Addr) : Prop := (∃ x, w.cell? p = some (.int .i64 x)) ∧ w.frozen? p = false
theorem NumW.mrk {B1 B2 : Nat} {u v : World} {p : Addr} (h : NumW u p) (hm : Mrk B1 B2 u v) : NumW v p := by
  obtain ⟨⟨x, hx⟩, hf⟩ := h
  exact ⟨hm.int hx, (hm.frz p (cell_lt hx)).trans hf⟩
/-- A slice of n elements, each of sz numbers that may be written, in blocks from B1 on and below B2. -/
def ShN (sz B1 B2 : Nat) (w : World) (v : Value) (n : Nat) : Prop :=
  ∃ a cap, v = .slice a n cap ∧ (0 < n → ∃ b o, a = some ⟨b, o, none⟩ ∧ B1 ≤ b ∧ b < B2 ∧ ∀ j, j < n * sz → NumW w ⟨b, o + j, none⟩)
theorem ShN.mrk {sz B1 B2 : Nat} {u v : World} {x : Value} {n : Nat} (h : ShN sz B1 B2 u x n) (hm : Mrk B1 B2 u v) : ShN sz B1 B2 v x n := by
  obtain ⟨a, cap, hv, h⟩ := h
  refine ⟨a, cap, hv, fun h0 => ?_⟩
  obtain ⟨b, o, ha, h1, h2, h3⟩ := h h0
  exact ⟨b, o, ha, h1, h2, fun j hj => (h3 j hj).mrk hm⟩
theorem ShN.form {sz B1 B2 : Nat} {u : World} {x : Value} {n : Nat} (h : ShN sz B1 B2 u x n) : ∃ a cap, x = .slice a n cap := by
  obtain ⟨a, cap, hv, _⟩ := h
  exact ⟨a, cap, hv⟩
def ShMat (B1 B2 : Nat) (w : World) (b o : Nat) (m : Meth) : Prop :=
  ∃ va vc, NumW w ⟨b, o, none⟩ ∧ w.cell? ⟨b, o + 1, none⟩ = some va ∧ NumW w ⟨b, o + 2, none⟩ ∧ w.cell? ⟨b, o + 3, none⟩ = some vc ∧ ShN 1 B1 B2 w va m.args.length ∧ ShN 3 B1 B2 w vc m.code.length
theorem ShMat.mrk {B1 B2 : Nat} {u v : World} {b o : Nat} {m : Meth} (h : ShMat B1 B2 u b o m) (hm : Mrk B1 B2 u v) : ShMat B1 B2 v b o m := by
  obtain ⟨va, vc, h0, h1, h2, h3, h4, h5⟩ := h
  obtain ⟨a1, c1, rfl⟩ := h4.form
  obtain ⟨a2, c2, rfl⟩ := h5.form
  exact ⟨_, _, h0.mrk hm, hm.slice h1, h2.mrk hm, hm.slice h3, h4.mrk hm, h5.mrk hm⟩
def ShM (B1 B2 : Nat) (w : World) (v : Value) (l : List Meth) : Prop :=
  ∃ a cap, v = .slice a l.length cap ∧ (0 < l.length → ∃ b o, a = some ⟨b, o, none⟩ ∧ B1 ≤ b ∧ b < B2 ∧ ∀ j x, l[j]? = some x → ShMat B1 B2 w b (o + j * 4) x)
theorem ShM.mrk {B1 B2 : Nat} {u v : World} {x : Value} {l : List Meth} (h : ShM B1 B2 u x l) (hm : Mrk B1 B2 u v) : ShM B1 B2 v x l := by
  obtain ⟨a, cap, hv, h⟩ := h
  refine ⟨a, cap, hv, fun h0 => ?_⟩
  obtain ⟨b, o, ha, h1, h2, h3⟩ := h h0
  exact ⟨b, o, ha, h1, h2, fun j y hj => (h3 j y hj).mrk hm⟩
theorem ShM.form {B1 B2 : Nat} {u : World} {x : Value} {l : List Meth} (h : ShM B1 B2 u x l) : ∃ a cap, x = .slice a l.length cap := by
  obtain ⟨a, cap, hv, _⟩ := h
  exact ⟨a, cap, hv⟩
def ShKat (B1 B2 : Nat) (w : World) (b o : Nat) (c : Cls) : Prop :=
  ∃ vf vm, NumW w ⟨b, o, none⟩ ∧ w.cell? ⟨b, o + 1, none⟩ = some vf ∧ w.cell? ⟨b, o + 2, none⟩ = some vm ∧ ShN 1 B1 B2 w vf c.fields.length ∧ ShM B1 B2 w vm c.meths
theorem ShKat.mrk {B1 B2 : Nat} {u v : World} {b o : Nat} {c : Cls} (h : ShKat B1 B2 u b o c) (hm : Mrk B1 B2 u v) : ShKat B1 B2 v b o c := by
  obtain ⟨va, vc, h0, h1, h3, h4, h5⟩ := h
  obtain ⟨a1, c1, rfl⟩ := h4.form
  obtain ⟨a2, c2, rfl⟩ := h5.form
  exact ⟨_, _, h0.mrk hm, hm.slice h1, hm.slice h3, h4.mrk hm, h5.mrk hm⟩
def ShK (B1 B2 : Nat) (w : World) (v : Value) (l : Prg) : Prop :=
  ∃ a cap, v = .slice a l.length cap ∧ (0 < l.length → ∃ b o, a = some ⟨b, o, none⟩ ∧ B1 ≤ b ∧ b < B2 ∧ ∀ j x, l[j]? = some x → ShKat B1 B2 w b (o + j * 3) x)
theorem ShK.mrk {B1 B2 : Nat} {u v : World} {x : Value} {l : Prg} (h : ShK B1 B2 u x l) (hm : Mrk B1 B2 u v) : ShK B1 B2 v x l := by
  obtain ⟨a, cap, hv, h⟩ := h
  refine ⟨a, cap, hv, fun h0 => ?_⟩
  obtain ⟨b, o, ha, h1, h2, h3⟩ := h h0
  exact ⟨b, o, ha, h1, h2, fun j y hj => (h3 j y hj).mrk hm⟩

/-- The shape of a fresh program. -/
theorem shI_of {B : Nat} {w : World} {v : Value} {l : List Int} (h : SI true B w v l) : ShN 1 B w.heap.size w v l.length := by
  obtain ⟨a, cap, hv, _, h⟩ := h
  refine ⟨a, cap, hv, fun h0 => ?_⟩
  obtain ⟨b, o, ha, hB, ⟨hl, hf⟩, hx⟩ := h h0
  refine ⟨b, o, ha, hB, hl, fun j hj => ?_⟩
  have hj' : j < l.length := by omega
  have := hx j _ (List.getElem?_eq_getElem hj')
  rw [Nat.mul_one] at this
  exact ⟨⟨_, this⟩, hf rfl j hj⟩
theorem row_num {w : World} {g n : Nat} {l : List Tx.Ins} (hn : n = l.length) (h : Row w g 0 l) (hr : Room w g (l.length * 3)) : ∀ j, j < n * 3 → NumW w ⟨g, 0 + j, none⟩ := by
  intro j hj
  have hq : j / 3 < l.length := by omega
  obtain ⟨c0, c1, c2⟩ := h (j / 3) _ (List.getElem?_eq_getElem hq)
  refine ⟨?_, by rw [Nat.zero_add]; exact (hr j (by omega)).2⟩
  have hm : j % 3 = 0 ∨ j % 3 = 1 ∨ j % 3 = 2 := by omega
  rcases hm with hm | hm | hm
  · have e : 0 + j / 3 * 3 = 0 + j := by omega
    rw [e] at c0; exact ⟨_, c0⟩
  · have e : 0 + j / 3 * 3 + 1 = 0 + j := by omega
    rw [e] at c1; exact ⟨_, c1⟩
  · have e : 0 + j / 3 * 3 + 2 = 0 + j := by omega
    rw [e] at c2; exact ⟨_, c2⟩
theorem shC_of {B : Nat} {w : World} {v : Value} {l : List Tx.Ins} (h : CS B w v l) : ShN 3 B w.heap.size w v l.length := by
  obtain ⟨g, cap, hv, h1, h2, h3, h4⟩ := h
  exact ⟨_, cap, hv, fun _ => ⟨g, 0, rfl, h1, h2, row_num rfl h3 h4⟩⟩
theorem shM_of {B : Nat} {w : World} {v : Value} {l : List Meth} (h : SM front B w v l) : ShM B w.heap.size w v l := by
  obtain ⟨a, cap, hv, _, h⟩ := h
  refine ⟨a, cap, hv, fun h0 => ?_⟩
  obtain ⟨b, o, ha, hB, ⟨hl, hf⟩, hx⟩ := h h0
  refine ⟨b, o, ha, hB, hl, fun j x hj => ?_⟩
  have hjl : j < l.length := (List.getElem?_eq_some_iff.1 hj).1
  have f0 := hf rfl (j * 4) (by omega)
  have f2 := hf rfl (j * 4 + 2) (by omega)
  obtain ⟨va, vc, c0, c1, c2, c3, hv1, hv2⟩ := hx j x hj
  exact ⟨va, vc, ⟨⟨_, c0⟩, f0⟩, c1, ⟨⟨_, c2⟩, by rw [Nat.add_assoc]; exact f2⟩, c3, shI_of hv1, shC_of hv2⟩
theorem shK_of {B : Nat} {w : World} {v : Value} {l : Prg} (h : SK front B w v l) : ShK B w.heap.size w v l := by
  obtain ⟨a, cap, hv, _, h⟩ := h
  refine ⟨a, cap, hv, fun h0 => ?_⟩
  obtain ⟨b, o, ha, hB, ⟨hl, hf⟩, hx⟩ := h h0
  refine ⟨b, o, ha, hB, hl, fun j x hj => ?_⟩
  have hjl : j < l.length := (List.getElem?_eq_some_iff.1 hj).1
  have f0 := hf rfl (j * 3) (by omega)
  obtain ⟨va, vc, c0, c1, c2, hv1, hv2⟩ := hx j x hj
  exact ⟨va, vc, ⟨⟨_, c0⟩, f0⟩, c1, c2, shI_of hv1, shM_of hv2⟩

/-- How many numbers are marked. -/
def cntM (m : Meth) : Nat := 2 + m.args.length + 3 * m.code.length
def cntMs (ms : List Meth) : Nat := sumN (ms.map cntM)
def cntC (c : Cls) : Nat := 1 + c.fields.length + cntMs c.meths
def cntP (p : Prg) : Nat := sumN (p.map cntC)
theorem sumN_lin {α : Type} {f g : α → Nat} (l : List α) (h : ∀ x ∈ l, f x ≤ 3 + 3 * g x) : sumN (l.map f) ≤ 3 * (l.length + sumN (l.map g)) := by
  induction l with
  | nil => simp [sumN]
  | cons x l ih =>
    have h1 := h x (by simp)
    have h2 := ih (fun y hy => h y (by simp [hy]))
    simp only [sumN, List.map_cons, List.foldr_cons, List.length_cons] at h2 ⊢
    omega
theorem cntMs_le (ms : List Meth) : cntMs ms ≤ 3 * szMs ms := sumN_lin ms (fun m _ => by unfold cntM szM; omega)
theorem cntP_le (p : Prg) : cntP p ≤ 3 * szP p := sumN_lin p (fun c _ => by have := cntMs_le c.meths; unfold cntC szC; omega)

set_option maxRecDepth 100000 in
set_option maxHeartbeats 1000000 in
theorem markInts' (B1 B2 : Nat) (a : Option Addr) (cap m n : Nat) (hm : m + n ≤ 4000000) (w : World) (hs : ShN 1 B1 B2 w (.slice a n cap) n) :
    Calls Tryz.prog 14 #[.slice a n cap, .int .i64 m] w fun e w' => e = .returned (.int .i64 ((m + n : Nat) : Int)) ∧ Mrk B1 B2 w w' := by
  have HS : Hid (ShN 1 B1 B2 w (.slice a n cap) n) := hs
  clear hs
  go_enter Tryz.func14, Tryz.ntmps14
  go_wp2
  go_loopw [1, 5] (fun q i wr => ∃ k : Nat, k ≤ n ∧ i = .int .i64 k ∧ q = .int .i64 ((m : Int) + (k : Int)) ∧ Hid (Mrk B1 B2 w wr)) (fun _ i _ => n - (intOf i).toNat)
  case atStart => exact ⟨0, Nat.zero_le _, rfl, by simp, Mrk.refl _ _ _⟩
  case round =>
    obtain ⟨k, hk, rfl, rfl, hon⟩ := hrel
    by_cases hlt : k < n
    · have hki : (k : Int) < (n : Int) := by omega
      obtain ⟨a', c', he, hx⟩ := HS.out.mrk hon.out
      injection he with e1 e2 e3
      subst e1
      obtain ⟨b, o, rfl, h1, h2, h3⟩ := hx (by omega)
      obtain ⟨⟨x0, d0⟩, f0⟩ := h3 k (by omega)
      have HNX : Hid (Mrk B1 B2 w (wr.setCell ⟨b, o + k, none⟩ (.int .i64 ((m : Int) + (k : Int))))) := hon.out.trans (Mrk.set wr (p := ⟨b, o + k, none⟩) h1 h2 d0 _)
      clear hx h3
      go_wp2
      go_roundw
      case rel => exact ⟨k + 1, by omega, by go_num, by go_num, HNX.out⟩
      case measure => simp [intOf]; omega
    · have HKN : Hid (k = n) := by show k = n; omega
      go_wp2
      go_ret
      exact ⟨by rw [← HKN.out]; push_cast; rfl, hon.out⟩

set_option maxRecDepth 100000 in
set_option maxHeartbeats 1000000 in
theorem markInsns' (B1 B2 : Nat) (a : Option Addr) (cap m n : Nat) (hm : m + 3 * n ≤ 4000000) (w : World) (hs : ShN 3 B1 B2 w (.slice a n cap) n) :
    Calls Tryz.prog 72 #[.slice a n cap, .int .i64 m] w fun e w' => e = .returned (.int .i64 ((m + 3 * n : Nat) : Int)) ∧ Mrk B1 B2 w w' := by
  have HS : Hid (ShN 3 B1 B2 w (.slice a n cap) n) := hs
  clear hs
  go_enter Tryz.func72, Tryz.ntmps72
  go_wp2
  go_loopw [1, 5] (fun q i wr => ∃ k : Nat, k ≤ n ∧ i = .int .i64 k ∧ q = .int .i64 ((m : Int) + 3 * (k : Int)) ∧ Hid (Mrk B1 B2 w wr)) (fun _ i _ => n - (intOf i).toNat)
  case atStart => exact ⟨0, Nat.zero_le _, rfl, by simp, Mrk.refl _ _ _⟩
  case round =>
    obtain ⟨k, hk, rfl, rfl, hon⟩ := hrel
    by_cases hlt : k < n
    · have hki : (k : Int) < (n : Int) := by omega
      obtain ⟨a', c', he, hx⟩ := HS.out.mrk hon.out
      injection he with e1 e2 e3
      subst e1
      obtain ⟨b, o, rfl, h1, h2, h3⟩ := hx (by omega)
      obtain ⟨⟨x0, d0⟩, f0⟩ := h3 (k * 3) (by omega)
      obtain ⟨⟨x1, d1⟩, f1⟩ := h3 (k * 3 + 1) (by omega)
      obtain ⟨⟨x2, d2⟩, f2⟩ := h3 (k * 3 + 2) (by omega)
      rw [← Nat.add_assoc] at d1 f1 d2 f2
      have M1 := Mrk.set (B1 := B1) (B2 := B2) wr (p := ⟨b, o + k * 3, none⟩) h1 h2 d0 ((m : Int) + 3 * (k : Int))
      obtain ⟨y1, e1⟩ := M1.int d1
      obtain ⟨y2, e2⟩ := M1.int d2
      have M2 := Mrk.set (B1 := B1) (B2 := B2) _ (p := ⟨b, o + k * 3 + 1, none⟩) h1 h2 e1 ((m : Int) + 3 * (k : Int) + 1)
      obtain ⟨y3, e3⟩ := M2.int e2
      have M3 := Mrk.set (B1 := B1) (B2 := B2) _ (p := ⟨b, o + k * 3 + 2, none⟩) h1 h2 e3 ((m : Int) + 3 * (k : Int) + 1 + 1)
      have HNX : Hid (Mrk B1 B2 w (((wr.setCell ⟨b, o + k * 3, none⟩ (.int .i64 ((m : Int) + 3 * (k : Int)))).setCell ⟨b, o + k * 3 + 1, none⟩ (.int .i64 ((m : Int) + 3 * (k : Int) + 1))).setCell ⟨b, o + k * 3 + 2, none⟩ (.int .i64 ((m : Int) + 3 * (k : Int) + 1 + 1)))) := hon.out.trans ((M1.trans M2).trans M3)
      clear hx h3 M1 M2 M3
      go_wp2
      go_roundw
      case rel => exact ⟨k + 1, by omega, by go_num, by go_num, HNX.out⟩
      case measure => simp [intOf]; omega
    · have HKN : Hid (k = n) := by show k = n; omega
      go_wp2
      go_ret
      exact ⟨by rw [← HKN.out]; push_cast; rfl, hon.out⟩
end Pg
end Go.Proofs.YtinanjjhkddikaaGreat

/- Contracts of the laws' own marking of programs: methods, classes, programs. -/
namespace Go.Proofs.YtinanjjhkddikaaGreat
namespace Pg
open Go.ChangeShapes Go.WideShapes Go.ChangeAt Go.RowKit St

theorem ShM.at {B1 B2 : Nat} {w : World} {a : Option Addr} {n cap : Nat} {l : List Meth} (h : ShM B1 B2 w (.slice a n cap) l) {k : Nat} (hk : k < l.length) : ∃ b o, a = some ⟨b, o, none⟩ ∧ B1 ≤ b ∧ b < B2 ∧ ShMat B1 B2 w b (o + k * 4) l[k] := by
  obtain ⟨a', c', he, hx⟩ := h
  injection he with e1 e2 e3
  subst e1
  obtain ⟨b, o, ha, h1, h2, h3⟩ := hx (by omega)
  exact ⟨b, o, ha, h1, h2, h3 k _ (List.getElem?_eq_getElem hk)⟩
theorem ShK.at {B1 B2 : Nat} {w : World} {a : Option Addr} {n cap : Nat} {l : Prg} (h : ShK B1 B2 w (.slice a n cap) l) {k : Nat} (hk : k < l.length) : ∃ b o, a = some ⟨b, o, none⟩ ∧ B1 ≤ b ∧ b < B2 ∧ ShKat B1 B2 w b (o + k * 3) l[k] := by
  obtain ⟨a', c', he, hx⟩ := h
  injection he with e1 e2 e3
  subst e1
  obtain ⟨b, o, ha, h1, h2, h3⟩ := hx (by omega)
  exact ⟨b, o, ha, h1, h2, h3 k _ (List.getElem?_eq_getElem hk)⟩
theorem cnt_step {ms : List Meth} {k : Nat} (hk : k < ms.length) : cntMs (ms.take (k + 1)) = cntMs (ms.take k) + cntM ms[k] := sumN_take_succ _ ms k hk
theorem cnt_take (ms : List Meth) (k : Nat) : cntMs (ms.take k) ≤ cntMs ms := sumN_take_le _ ms k
theorem cntP_step {p : Prg} {k : Nat} (hk : k < p.length) : cntP (p.take (k + 1)) = cntP (p.take k) + cntC p[k] := sumN_take_succ _ p k hk
theorem cntP_take (p : Prg) (k : Nat) : cntP (p.take k) ≤ cntP p := sumN_take_le _ p k

set_option maxRecDepth 100000 in
set_option maxHeartbeats 2000000 in
theorem markMethods' (B1 B2 : Nat) (a : Option Addr) (cap q : Nat) (ms : List Meth) (hn : ms.length ≤ 1048576) (hq : q + cntMs ms ≤ 4000000) (w : World) (hs : ShM B1 B2 w (.slice a ms.length cap) ms) :
    Calls Tryz.prog 50 #[.slice a ms.length cap, .int .i64 q] w fun e w' => e = .returned (.int .i64 ((q + cntMs ms : Nat) : Int)) ∧ Mrk B1 B2 w w' := by
  have HS : Hid (ShM B1 B2 w (.slice a ms.length cap) ms) := hs
  clear hs
  go_enter Tryz.func50, Tryz.ntmps50
  go_wp2
  go_loopw [1, 5] (fun v i wr => ∃ k c : Nat, k ≤ ms.length ∧ i = .int .i64 k ∧ v = .int .i64 c ∧ Hid (c = q + cntMs (ms.take k)) ∧ Hid (Mrk B1 B2 w wr)) (fun _ i _ => ms.length - (intOf i).toNat)
  case atStart => exact ⟨0, q, Nat.zero_le _, rfl, rfl, by show _ = _; simp [cntMs, sumN], Mrk.refl _ _ _⟩
  case round =>
    obtain ⟨k, c, hk, rfl, rfl, hc, hon⟩ := hrel
    by_cases hlt : k < ms.length
    · have hki : (k : Int) < (ms.length : Int) := by omega
      have HST : Hid (cntMs (ms.take (k + 1)) = cntMs (ms.take k) + cntM ms[k]) := cnt_step hlt
      have hbd : c + cntM ms[k] ≤ 4000000 := by
        have h1 := HST.out
        have h2 := cnt_take ms (k + 1)
        have h3 := hc.out
        omega
      have HS0 : Hid (ShM B1 B2 wr (.slice a ms.length cap) ms) := HS.out.mrk hon.out
      obtain ⟨b, o, rfl, h1, h2, va0, vc0, ⟨⟨x0, d0⟩, f0⟩, _⟩ := HS0.out.at hlt
      have HAT : Hid (∀ u, Mrk B1 B2 wr u → ShMat B1 B2 u b (o + k * 4) ms[k]) := fun u hu => by
        obtain ⟨b', o', he, _, _, hm⟩ := (HS0.out.mrk hu).at hlt
        simp at he
        obtain ⟨rfl, rfl⟩ := he
        exact hm
      generalize ms[k] = m at *
      have em : cntM m = 2 + m.args.length + 3 * m.code.length := rfl
      have M1 : Hid (Mrk B1 B2 wr (wr.setCell ⟨b, o + k * 4, none⟩ (.int .i64 c))) := Mrk.set wr (p := ⟨b, o + k * 4, none⟩) h1 h2 d0 c
      obtain ⟨va, vc, _, c1, _, _, hva, _⟩ := HAT.out _ M1.out
      obtain ⟨a1, y1, rfl⟩ := hva.form
      have HVA : Hid (ShN 1 B1 B2 (wr.setCell ⟨b, o + k * 4, none⟩ (.int .i64 c)) (.slice a1 m.args.length y1) m.args.length) := hva
      clear hva HS0
      go_wp2_with fail
      have e1 : ((c : Int) + 1) = ((c + 1 : Nat) : Int) := by omega
      rw [e1]
      clear e1
      refine (markInts' B1 B2 a1 y1 (c + 1) m.args.length (by omega) _ HVA.out).mono ?_
      rintro e w2 ⟨rfl, hm2⟩
      have M2 : Hid (Mrk B1 B2 wr w2) := M1.out.trans hm2
      clear hm2 c1 d0 f0 HVA M1
      obtain ⟨_, _, _, _, ⟨⟨x2, d2⟩, f2⟩, _⟩ := HAT.out _ M2.out
      have M3 : Hid (Mrk B1 B2 wr (w2.setCell ⟨b, o + k * 4 + 2, none⟩ (.int .i64 ((c + 1 + m.args.length : Nat) : Int)))) := M2.out.trans (Mrk.set w2 (p := ⟨b, o + k * 4 + 2, none⟩) h1 h2 d2 _)
      obtain ⟨va3, vc3, _, _, _, c3, _, hvc⟩ := HAT.out _ M3.out
      obtain ⟨a3, y3, rfl⟩ := hvc.form
      have HVC : Hid (ShN 3 B1 B2 (w2.setCell ⟨b, o + k * 4 + 2, none⟩ (.int .i64 ((c + 1 + m.args.length : Nat) : Int))) (.slice a3 m.code.length y3) m.code.length) := hvc
      clear hvc
      generalize hcc : c + 1 + m.args.length = cc at *
      have HCC : Hid (c + 1 + m.args.length = cc) := hcc
      have hcc2 : cc ≤ 4000000 := by omega
      have hcc3 : cc + 1 + 3 * m.code.length ≤ 4000000 := by omega
      clear hcc
      go_wp2_with fail
      have e2 : ((cc : Int) + 1) = ((cc + 1 : Nat) : Int) := by omega
      rw [e2]
      clear e2
      refine (markInsns' B1 B2 a3 y3 (cc + 1) m.code.length hcc3 _ HVC.out).mono ?_
      rintro e w4 ⟨rfl, hm4⟩
      have M4 : Hid (Mrk B1 B2 w w4) := hon.out.trans (M3.out.trans hm4)
      have HC4 : Hid (cc + 1 + 3 * m.code.length = q + cntMs (ms.take (k + 1))) := by
        show _ = _
        have h1 := HST.out
        have h2 := hc.out
        have h3 := HCC.out
        omega
      clear hm4 c3 d2 f2 HVC M2 M3 HAT hon HST hc HCC
      generalize cc + 1 + 3 * m.code.length = c5 at *
      go_wp2
      go_roundw
      case rel => exact ⟨k + 1, c5, by omega, by go_num, rfl, HC4.out, M4.out⟩
      case measure => simp [intOf]; omega
    · have HKN : Hid (q + cntMs ms = c) := by
        show _ = _
        have h := hc.out
        rw [List.take_of_length_le (by omega)] at h
        exact h.symm
      go_wp2
      go_ret
      exact ⟨retI (by rw [HKN.out]), hon.out⟩

set_option maxRecDepth 100000 in
set_option maxHeartbeats 2000000 in
theorem markClasses' (B1 B2 : Nat) (a : Option Addr) (cap q : Nat) (ms : Prg) (hsm : SmallP ms) (hq : q + cntP ms ≤ 4000000) (w : World) (hs : ShK B1 B2 w (.slice a ms.length cap) ms) :
    Calls Tryz.prog 29 #[.slice a ms.length cap, .int .i64 q] w fun e w' => e = .returned (.int .i64 ((q + cntP ms : Nat) : Int)) ∧ Mrk B1 B2 w w' := by
  have HS : Hid (ShK B1 B2 w (.slice a ms.length cap) ms) := hs
  have hn := hsm.1
  have HSM : Hid (SmallP ms) := hsm
  clear hs hsm
  go_enter Tryz.func29, Tryz.ntmps29
  go_wp2
  go_loopw [1, 5] (fun v i wr => ∃ k c : Nat, k ≤ ms.length ∧ i = .int .i64 k ∧ v = .int .i64 c ∧ Hid (c = q + cntP (ms.take k)) ∧ Hid (Mrk B1 B2 w wr)) (fun _ i _ => ms.length - (intOf i).toNat)
  case atStart => exact ⟨0, q, Nat.zero_le _, rfl, rfl, by show _ = _; simp [cntP, sumN], Mrk.refl _ _ _⟩
  case round =>
    obtain ⟨k, c, hk, rfl, rfl, hc, hon⟩ := hrel
    by_cases hlt : k < ms.length
    · have hki : (k : Int) < (ms.length : Int) := by omega
      have HST : Hid (cntP (ms.take (k + 1)) = cntP (ms.take k) + cntC ms[k]) := cntP_step hlt
      have hbd : c + cntC ms[k] ≤ 4000000 := by
        have h1 := HST.out
        have h2 := cntP_take ms (k + 1)
        have h3 := hc.out
        omega
      have hml := (HSM.out.2 _ (List.getElem_mem hlt)).2.1
      have HS0 : Hid (ShK B1 B2 wr (.slice a ms.length cap) ms) := HS.out.mrk hon.out
      obtain ⟨b, o, rfl, h1, h2, va0, vc0, ⟨⟨x0, d0⟩, f0⟩, _⟩ := HS0.out.at hlt
      have HAT : Hid (∀ u, Mrk B1 B2 wr u → ShKat B1 B2 u b (o + k * 3) ms[k]) := fun u hu => by
        obtain ⟨b', o', he, _, _, hm⟩ := (HS0.out.mrk hu).at hlt
        simp at he
        obtain ⟨rfl, rfl⟩ := he
        exact hm
      generalize ms[k] = m at *
      have em : cntC m = 1 + m.fields.length + cntMs m.meths := rfl
      have M1 : Hid (Mrk B1 B2 wr (wr.setCell ⟨b, o + k * 3, none⟩ (.int .i64 c))) := Mrk.set wr (p := ⟨b, o + k * 3, none⟩) h1 h2 d0 c
      obtain ⟨va, vc, _, c1, _, hva, _⟩ := HAT.out _ M1.out
      obtain ⟨a1, y1, rfl⟩ := hva.form
      have HVA : Hid (ShN 1 B1 B2 (wr.setCell ⟨b, o + k * 3, none⟩ (.int .i64 c)) (.slice a1 m.fields.length y1) m.fields.length) := hva
      clear hva HS0
      go_wp2_with fail
      have e1 : ((c : Int) + 1) = ((c + 1 : Nat) : Int) := by omega
      rw [e1]
      clear e1
      refine (markInts' B1 B2 a1 y1 (c + 1) m.fields.length (by omega) _ HVA.out).mono ?_
      rintro e w2 ⟨rfl, hm2⟩
      have M2 : Hid (Mrk B1 B2 wr w2) := M1.out.trans hm2
      clear hm2 c1 d0 f0 HVA M1
      obtain ⟨va3, vc3, _, _, c3, _, hvc⟩ := HAT.out _ M2.out
      obtain ⟨a3, y3, rfl⟩ := hvc.form
      have HVC : Hid (ShM B1 B2 w2 (.slice a3 m.meths.length y3) m.meths) := hvc
      clear hvc
      generalize hcc : c + 1 + m.fields.length = cc at *
      have HCC : Hid (c + 1 + m.fields.length = cc) := hcc
      have hcc3 : cc + cntMs m.meths ≤ 4000000 := by omega
      clear hcc
      go_wp2_with fail
      refine (markMethods' B1 B2 a3 y3 cc m.meths hml hcc3 _ HVC.out).mono ?_
      rintro e w4 ⟨rfl, hm4⟩
      have M4 : Hid (Mrk B1 B2 w w4) := hon.out.trans (M2.out.trans hm4)
      have HC4 : Hid (cc + cntMs m.meths = q + cntP (ms.take (k + 1))) := by
        show _ = _
        have h1 := HST.out
        have h2 := hc.out
        have h3 := HCC.out
        omega
      clear hm4 c3 HVC M2 HAT hon HST hc HCC
      generalize cc + cntMs m.meths = c5 at *
      go_wp2
      go_roundw
      case rel => exact ⟨k + 1, c5, by omega, by go_num, rfl, HC4.out, M4.out⟩
      case measure => simp [intOf]; omega
    · have HKN : Hid (q + cntP ms = c) := by
        show _ = _
        have h := hc.out
        rw [List.take_of_length_le (by omega)] at h
        exact h.symm
      go_wp2
      go_ret
      exact ⟨retI (by rw [HKN.out]), hon.out⟩

set_option maxHeartbeats 1000000 in
theorem markProgram' (B1 B2 : Nat) (a : Option Addr) (cap : Nat) (p : Prg) (hsz : szP p ≤ 1048576) (w : World) (hs : ShK B1 B2 w (.slice a p.length cap) p) :
    Calls Tryz.prog 13 #[.agg #[.slice a p.length cap], .int .i64 1] w fun e w' => e = .returned (.int .i64 ((1 + cntP p : Nat) : Int)) ∧ Mrk B1 B2 w w' := by
  have HS : Hid (ShK B1 B2 w (.slice a p.length cap) p) := hs
  have HSM : Hid (SmallP p) := SmallP.of hsz
  have hc : 1 + cntP p ≤ 4000000 := by have := cntP_le p; omega
  clear hs
  go_enter Tryz.func13, Tryz.ntmps13
  go_wp2_with fail
  refine (markClasses' B1 B2 a cap 1 p HSM.out hc _ (HS.out.mrk (Mrk.of ((Below.refl _ _).alloc (Nat.le_refl _) _)))).mono ?_
  rintro e w1 ⟨rfl, hm1⟩
  have M1 : Hid (Mrk B1 B2 w w1) := (Mrk.of ((Below.refl _ _).alloc (Nat.le_refl _) _)).trans hm1
  clear hm1
  generalize hc5 : 1 + cntP p = c5 at *
  have HC5 : Hid (1 + cntP p = c5) := hc5
  clear hc5
  go_wp2
  go_ret
  exact ⟨retI (by rw [HC5.out]), M1.out⟩
end Pg
end Go.Proofs.YtinanjjhkddikaaGreat

/- What marking a program leaves as it was: rows of numbers elsewhere. -/
namespace Go.Proofs.YtinanjjhkddikaaGreat
namespace Pg
open Go.ChangeShapes Go.WideShapes Go.ChangeAt Go.RowKit St

theorem Mrk.irow {B1 B2 : Nat} {u v : World} (h : Mrk B1 B2 u v) {g o : Nat} {l : List Int} (hg : g < B1 ∨ B2 ≤ g) (hr : IRow u g o l) : IRow v g o l := fun j x hj => (World.cell?_of_block (w := u) (h.far g (cell_lt (hr j x hj)) hg)).trans (hr j x hj)
theorem Mrk.room {B1 B2 : Nat} {u v : World} (h : Mrk B1 B2 u v) {g n : Nat} (hg : g < B1 ∨ B2 ≤ g) (hr : Room u g n) : Room v g n := fun i hi => by
  obtain ⟨⟨x, hx⟩, hf⟩ := hr i hi
  have l : g < u.heap.size := cell_lt hx
  exact ⟨⟨x, (World.cell?_of_block (w := u) (h.far g l hg)).trans hx⟩, (World.frozen?_of_block (w := u) (h.far g l hg)).trans hf⟩

end Pg
end Go.Proofs.YtinanjjhkddikaaGreat

/- The walk of the law FnExactMade. -/
namespace Go.Proofs.YtinanjjhkddikaaGreat
namespace Pg
open Go.ChangeShapes Go.WideShapes Go.ChangeAt Go.RowKit St

set_option maxRecDepth 100000 in
set_option maxHeartbeats 4000000 in
theorem madLaw (a : Option Addr) (cap : Nat) (p : Prg) (hs : SaneP p) (w : World) (hin : SK wide 0 w (.slice a p.length cap) p) :
    Calls Tryz.prog 3 #[.agg #[.slice a p.length cap]] w fun e w' => e = .returned (.bool true) ∧ Below w.heap.size w w' := by
  have HIN : Hid (SK wide 0 w (.slice a p.length cap) p) := hin
  have HS : Hid (SaneP p) := hs
  clear hin hs
  obtain ⟨W, hW⟩ : ∃ W, W = w.alloc (.cells #[.slice a p.length cap] 24) := ⟨_, rfl⟩
  have hwW : Below w.heap.size w W := by rw [hW]; exact (Below.refl _ _).alloc (Nat.le_refl _) _
  have L0 : Hid (Cells W w.heap.size [.slice a p.length cap]) := by rw [hW]; exact Cells.new w _ rfl _ _
  by_cases hsz : (szP p : Int) ≤ 1048576
  · have HSN : Hid (szP p ≤ 1048576) := by show _ ≤ _; omega
    have HSM : Hid (SmallP p) := SmallP.of HSN.out
    have HSZ : Hid (szR (szP p) 1048576 = 1048576 - (szP p : Int)) := szR_yes hsz
    have hq : 0 ≤ 1048576 - (szP p : Int) := by omega
    obtain ⟨P, hP, HSF, HIF⟩ : ∃ P : List Int, P.length ≤ 24 ∧
        Hid (∀ B v d w, SK front B w (.slice v p.length d) p → Calls Tryz.prog 8 #[.agg #[.slice v p.length d]] w fun e w' => ∃ v, e = .returned v ∧ LstB w.heap.size w' v P ∧ Below w.heap.size w w') ∧
        Hid (∀ B v d w, SK front B w (.slice v p.length d) p → Calls Tryz.prog 10 #[.agg #[.slice v p.length d]] w fun e w' => ∃ v, e = .returned v ∧ Grow w.heap.size w' v P ∧ Below w.heap.size w w') :=
      ⟨_, madL_len p, fun B v d w h => specMade_at B p v d HSM.out w h, fun B v d w h => implMade B p v d HSM.out w h⟩
    go_enter Tryz.func3, Tryz.ntmps3
    go_wp2_with fail
    rw [← hW]
    clear hW
    refine (szProgram wide 0 a cap p HS.out _ (SK.on HIN.out (Keep.of hwW))).mono ?_
    rw [HSZ.out]
    rintro e w1 ⟨rfl, hb1⟩
    have hw1 : Below w.heap.size w w1 := below_over hwW hb1
    have hW1 : Below W.heap.size W w1 := hb1
    obtain ⟨c1, _⟩ := (L0.out.on hW1).g0
    clear hb1 HSZ
    go_wp2_with fail
    refine (toProgram p a cap HSM.out _ (SK.on HIN.out (Keep.of hw1))).mono ?_
    rintro e w2 ⟨v2, rfl, hv2, hb2⟩
    obtain ⟨a2, d2, rfl⟩ := hv2.form
    have hw2 : Below w.heap.size w w2 := below_over hw1 hb2
    have hW2 : Below W.heap.size W w2 := below_over hW1 hb2
    have HV2 : Hid (SK front w1.heap.size w2 (.slice a2 p.length d2) p) := hv2
    clear hb2 hv2 c1
    go_wp2_with fail
    refine (HSF.out w1.heap.size a2 d2 _ HV2.out).mono ?_
    rintro e w3 ⟨x0, rfl, hg3, hb3⟩
    obtain ⟨gs, cs, rfl, _, hgs, hgs', hsr⟩ := id hg3
    have hw3 : Below w.heap.size w w3 := below_over hw2 hb3
    have hW3 : Below W.heap.size W w3 := below_over hW2 hb3
    have HS3 : Hid (IRow w3 gs 0 P) := hsr
    obtain ⟨c3, _⟩ := (L0.out.on hW3).g0
    clear hb3 HV2 hg3 hsr
    go_wp2_with fail
    refine (toProgram p a cap HSM.out _ (SK.on HIN.out (Keep.of hw3))).mono ?_
    rintro e w4 ⟨v4, rfl, hv4, hb4⟩
    obtain ⟨a4, d4, rfl⟩ := hv4.form
    have hw4 : Below w.heap.size w w4 := below_over hw3 hb4
    have hW4 : Below W.heap.size W w4 := below_over hW3 hb4
    have hz34 : w3.heap.size ≤ w4.heap.size := hb4.size
    have SH4 : Hid (ShK w3.heap.size w4.heap.size w4 (.slice a4 p.length d4) p) := shK_of hv4
    have HS4 : Hid (IRow w4 gs 0 P) := HS3.out.on hb4
    obtain ⟨W5, hW5⟩ : ∃ W5, W5 = w4.alloc (.cells #[.slice a4 p.length d4] 30) := ⟨_, rfl⟩
    have hb5 : Below w4.heap.size w4 W5 := by rw [hW5]; exact (Below.refl _ _).alloc (Nat.le_refl _) _
    have hz5 : w4.heap.size ≤ W5.heap.size := hb5.size
    have X5 : Hid (Cells W5 w4.heap.size [.slice a4 p.length d4]) := by rw [hW5]; exact Cells.new w4 _ rfl _ _
    have HV5 : Hid (SK front w3.heap.size W5 (.slice a4 p.length d4) p) := SK.on hv4 (Keep.of hb5)
    have hw5 : Below w.heap.size w W5 := below_over hw4 hb5
    have hWW5 : Below W.heap.size W W5 := below_over hW4 hb5
    have SH5 : Hid (ShK w3.heap.size w4.heap.size W5 (.slice a4 p.length d4) p) := SH4.out.mrk (Mrk.of hb5)
    have HS5 : Hid (IRow W5 gs 0 P) := HS4.out.on hb5
    clear hb4 hv4 c3 hb5 SH4 HS4 HS3
    go_wp2_with fail
    rw [← hW5]
    clear hW5
    refine (HIF.out w3.heap.size a4 d4 _ HV5.out).mono ?_
    rintro e w6 ⟨x1, rfl, hg6, hb6⟩
    obtain ⟨gi, ci, rfl, hgi, hgi', hir, him⟩ := hg6.gint
    have hw6 : Below w.heap.size w w6 := below_over hw5 hb6
    have hW6 : Below W.heap.size W w6 := below_over hWW5 hb6
    have X6 : Hid (Cells w6 w4.heap.size [.slice a4 p.length d4]) := X5.out.on hb6
    have HV6 : Hid (SK front w3.heap.size w6 (.slice a4 p.length d4) p) := SK.on HV5.out (Keep.of hb6)
    have SH6 : Hid (ShK w3.heap.size w4.heap.size w6 (.slice a4 p.length d4) p) := SH5.out.mrk (Mrk.of hb6)
    have HI6 : Hid (IRow w6 gi 0 P) := hir
    have HM6 : Hid (Room w6 gi P.length) := him
    have HS6 : Hid (IRow w6 gs 0 P) := HS5.out.on hb6
    clear hb6 HV5 X5 SH5 HS5 hir him hg6
    go_wp2_with fail
    refine (eqInts gi gs ci cs P (by omega) _ HI6.out HS6.out).mono ?_
    rintro e w7 ⟨rfl, hb7⟩
    have hw7 : Below w.heap.size w w7 := below_over hw6 hb7
    have hW7 : Below W.heap.size W w7 := below_over hW6 hb7
    have X7 : Hid (Cells w7 w4.heap.size [.slice a4 p.length d4]) := X6.out.on hb7
    have HV7 : Hid (SK front w3.heap.size w7 (.slice a4 p.length d4) p) := SK.on HV6.out (Keep.of hb7)
    have SH7 : Hid (ShK w3.heap.size w4.heap.size w7 (.slice a4 p.length d4) p) := SH6.out.mrk (Mrk.of hb7)
    have HI7 : Hid (IRow w7 gi 0 P) := HI6.out.on hb7
    have HM7 : Hid (Room w7 gi P.length) := HM6.out.on hb7
    have HS7 : Hid (IRow w7 gs 0 P) := HS6.out.on hb7
    obtain ⟨c7, _⟩ := (L0.out.on hW7).g0
    obtain ⟨x7, _⟩ := X7.out.g0
    have lx : w4.heap.size < w7.heap.size := cell_lt x7
    clear hb7 HV6 X6 SH6 HI6 HM6 HS6 hw6 hW6
    go_wp2_with fail
    go_region_with (first
      | (go_at_call 9; refine (toProgram p a cap HSM.out _ ?hx).mono ?_; (case hx => exact SK.on HIN.out (Keep.of hw7.drew)); rintro e w8 ⟨v8, rfl, hv8, hb8⟩; have x8 := (hb8.cell (p := ⟨w4.heap.size, 0, none⟩) lx).trans x7)
      | (go_at_call 12; have q3 := SK.on HV7.out (Keep.of (below_over (Below.refl _ _).drew hb8)); refine (eqProgram w3.heap.size _ (.slice a4 p.length d4) _ p HSM.out _ q3 hv8).mono ?_; rintro e w9 ⟨rfl, hb9⟩))
    all_goals
      have hb79 : Below w7.heap.size w7 w9 := below_over (below_over (Below.refl _ _).drew hb8) hb9
      have hw9 : Below w.heap.size w w9 := below_over hw7 hb79
      have hW9 : Below W.heap.size W w9 := below_over hW7 hb79
      obtain ⟨x9, _⟩ := (X7.out.on hb79).g0
      have SH9 : Hid (ShK w3.heap.size w4.heap.size w9 (.slice a4 p.length d4) p) := SH7.out.mrk (Mrk.of hb79)
      have HI9 : Hid (IRow w9 gi 0 P) := HI7.out.on hb79
      have HM9 : Hid (Room w9 gi P.length) := HM7.out.on hb79
      have HS9 : Hid (IRow w9 gs 0 P) := HS7.out.on hb79
      clear hb8 hb9 hv8 x7 c7 q3 x8 hb79 SH7 HI7 HM7 HS7 HV7 X7 hw7 hW7 lx
      go_wp2_with fail
      refine (markProgram' w3.heap.size w4.heap.size a4 d4 p HSN.out _ SH9.out).mono ?_
      rintro e wD ⟨rfl, hmD⟩
      have hzW : W.heap.size ≤ w3.heap.size := hW3.size
      have hzw : w.heap.size ≤ w3.heap.size := hw3.size
      have hwD : Below w.heap.size w wD := hw9.trans (hmD.below hzw hw9.size)
      have hWD : Below W.heap.size W wD := hW9.trans (hmD.below hzW hW9.size)
      have hgl : gi < w3.heap.size ∨ w4.heap.size ≤ gi := .inr (by omega)
      have hgl2 : gs < w3.heap.size ∨ w4.heap.size ≤ gs := .inl hgs'
      have HID : Hid (IRow wD gi 0 P) := hmD.irow hgl HI9.out
      have HMD : Hid (Room wD gi P.length) := hmD.room hgl HM9.out
      have HSD : Hid (IRow wD gs 0 P) := hmD.irow hgl2 HS9.out
      clear hmD HI9 HM9 HS9 SH9 x9 hw9 hW9 hgl hgl2
      generalize 1 + cntP p = cnt at *
      have hneg : ¬ ((cnt : Int) < 0) := by omega
      go_wp2_with fail
      refine (eqInts gi gs ci cs P (by omega) _ HID.out HSD.out).mono ?_
      rintro e wE ⟨rfl, hbE⟩
      have hwE : Below w.heap.size w wE := below_over hwD hbE
      have hWE : Below W.heap.size W wE := below_over hWD hbE
      have HME : Hid (Room wE gi P.length) := HMD.out.on hbE
      have HSE : Hid (IRow wE gs 0 P) := HSD.out.on hbE
      clear hbE HID HMD HSD hwD hWD
      have n6 : gs ≠ gi := by omega
      have mi : w.heap.size ≤ gi := by omega
      have miW : W.heap.size ≤ gi := by omega
      go_wp2_with fail
      refine (imark_at gi ci 1 P.length (by omega) (by omega) wE HME.out).mono ?_
      rintro e wF ⟨rfl, hiF, _, hoF⟩
      have hwF : Below w.heap.size w wF := hwE.trans (hoF.below mi)
      have hWF : Below W.heap.size W wF := hWE.trans (hoF.below miW)
      have HKF : Hid (IRow wF gi 0 (imarks 1 P.length)) := hiF
      have HSF : Hid (IRow wF gs 0 P) := hoF.irow n6 HSE.out
      obtain ⟨cF, _⟩ := (L0.out.on hWF).g0
      clear hiF hoF HME HSE hwE hWE
      go_wp2_with fail
      refine (iheld_at gi ci 1 P.length (by omega) (by omega) wF HKF.out).mono ?_
      rintro e wF' ⟨rfl, rfl⟩
      have hq0 : ¬ (((1 : Nat) : Int) + (P.length : Int) < 0) := by omega
      go_wp2_with fail
      refine (toProgram p a cap HSM.out _ (SK.on HIN.out (Keep.of hwF))).mono ?_
      rintro e wH ⟨vH, rfl, hvH, hbG⟩
      obtain ⟨aH, dH, rfl⟩ := hvH.form
      have hwH : Below w.heap.size w wH := below_over hwF hbG
      have HVH : Hid (SK front wF.heap.size wH (.slice aH p.length dH) p) := hvH
      have HKH : Hid (IRow wH gi 0 (imarks 1 P.length)) := HKF.out.on hbG
      have HSH : Hid (IRow wH gs 0 P) := HSF.out.on hbG
      clear hvH hbG HKF HSF cF
      go_wp2_with fail
      refine (HIF.out wF.heap.size aH dH _ HVH.out).mono ?_
      rintro e wI ⟨x2, rfl, hgI, hbI⟩
      obtain ⟨gh, ch, rfl, hgh, hgh', hirh, _⟩ := hgI.gint
      have hwI : Below w.heap.size w wI := below_over hwH hbI
      have HHI : Hid (IRow wI gh 0 P) := hirh
      have HKI : Hid (IRow wI gi 0 (imarks 1 P.length)) := HKH.out.on hbI
      have HSI : Hid (IRow wI gs 0 P) := HSH.out.on hbI
      clear hirh hbI HVH HKH HSH hgI
      go_wp2_with fail
      refine (eqInts gh gs ch cs P (by omega) _ HHI.out HSI.out).mono ?_
      rintro e wJ ⟨rfl, hbJ⟩
      have hwJ : Below w.heap.size w wJ := below_over hwI hbJ
      have HKJ : Hid (IRow wJ gi 0 (imarks 1 P.length)) := HKI.out.on hbJ
      clear hbJ HKI HSI HHI
      go_wp2_with fail
      refine (iheld_at gi ci 1 P.length (by omega) (by omega) wJ HKJ.out).mono ?_
      rintro e wJ' ⟨rfl, rfl⟩
      go_wp2
      go_ret
      exact ⟨rfl, hwJ⟩
  · have HSZ : Hid (szR (szP p) 1048576 = -1) := szR_no (Int.not_le.1 hsz)
    go_enter Tryz.func3, Tryz.ntmps3
    go_wp2_with fail
    rw [← hW]
    clear hW
    refine (szProgram wide 0 a cap p HS.out _ (SK.on HIN.out (Keep.of hwW))).mono ?_
    rw [HSZ.out]
    rintro e w1 ⟨rfl, hb1⟩
    have hw1 : Below w.heap.size w w1 := below_over hwW hb1
    clear hb1
    go_wp2
    go_ret
    exact ⟨rfl, hw1⟩
end Pg
end Go.Proofs.YtinanjjhkddikaaGreat
