/- What may come next, as a list of its own. -/
import Derived.Test.YtinanjjhkddikaaGreatJNx3
import Derived.Test.YtinanjjhkddikaaGreatJHi0
namespace Go.Proofs.YtinanjjhkddikaaGreat
namespace Pg
open Go.ChangeShapes Go.WideShapes Go.ChangeAt Go.RowKit St

/-- A list of numbers that lies at B or behind it. -/
def LstB (B : Nat) (w : World) (v : Value) (l : List Int) : Prop := ∃ g c, v = .slice (some ⟨g, 0, none⟩) l.length c ∧ l.length ≤ c ∧ B ≤ g ∧ g < w.heap.size ∧ IRow w g 0 l
theorem lstB_of {B B' : Nat} {w : World} {v : Value} {l : List Int} (h : Grow B' w v l) (hB : B ≤ B') : LstB B w v l := by
  obtain ⟨g, c, hv, hc, hg, hr⟩ := h.lst
  obtain ⟨g', c', hv', h1, _⟩ := h.gint
  rw [hv] at hv'
  injection hv' with hv'
  injection hv' with hv'
  injection hv' with hv'
  subst hv'
  exact ⟨g, c, hv, hc, Nat.le_trans hB h1, hg, hr⟩
set_option maxRecDepth 100000 in
set_option maxHeartbeats 2000000 in
theorem l1PutB (B0 : Nat) (l : List Int) (v : Value) (n : Int) (hl : l.length ≤ 1000) (w : World) (hB0 : B0 ≤ w.heap.size) (h : LstB B0 w v l) :
    Calls Tryz.prog 45 #[v, .int .i64 n] w fun e w' => ∃ v', e = .returned v' ∧ LstB B0 w' v' (putL l n) ∧ Below w.heap.size w w' := by
  obtain ⟨i0, hif, hz0, hz1, hz2⟩ := info_parts infoN
  obtain ⟨g, cap, rfl, hcap, hgB, hgw, hir⟩ := h
  have HR : Hid (IRow w g 0 l) := hir
  clear hir
  go_enter Tryz.func45, Tryz.ntmps45
  go_wp2
  go_loopw [5] (fun i wr => ∃ k : Nat, k ≤ l.length ∧ i = .int .i64 (k : Int) ∧ Hid (∀ x ∈ l.take k, x < n) ∧ wr = w) (fun i _ => l.length - (intOf i).toNat)
  case atStart => exact ⟨0, Nat.zero_le _, rfl, fun x hx => by simp at hx, rfl⟩
  case round =>
    obtain ⟨k, hk, rfl, hlo, rfl⟩ := hrel
    have HAT : Hid ((∀ x, l[k]? = some x → x = n → putL l n = l) ∧ ((∀ x, l[k]? = some x → n < x) → putL l n = l.take k ++ n :: l.drop k)) := putL_at hlo.out hk
    have tail : ∀ (hne : ∀ x, l[k]? = some x → n < x), Hid (putL l n = (l.take k ++ [n]) ++ l.drop k) := fun hne => by show _ = _; rw [HAT.out.2 hne]; simp
    by_cases hlt : k < l.length
    · have c0 := HR.out k _ (List.getElem?_eq_getElem hlt)
      have X0 : Hid (l[k]? = some l[k]) := List.getElem?_eq_getElem hlt
      have HT : Hid (l[k] < n → ∀ x ∈ l.take (k + 1), x < n) := fun h x hx => by
        rw [List.take_succ_eq_append_getElem hlt] at hx
        rcases List.mem_append.1 hx with hx | hx
        · exact hlo.out x hx
        · simp at hx; subst hx; exact h
      generalize l[k] = y at *
      rw [Nat.zero_add] at c0
      have hki : (k : Int) < (l.length : Int) := by omega
      by_cases hy : y < n
      · have HL : Hid (∀ x ∈ l.take (k + 1), x < n) := HT.out hy
        clear HT hlo HAT tail X0
        go_wp2
        go_roundw
        case rel => exact ⟨k + 1, by omega, by go_num, HL.out, by simp⟩
        case measure => simp [intOf]; omega
      · by_cases hyn : y = n
        · subst hyn
          have HE : Hid (putL l y = l) := HAT.out.1 y X0.out rfl
          clear HT hlo HAT tail X0
          go_wp2
          go_ret
          exact ⟨_, rfl, by rw [HE.out]; exact ⟨g, cap, rfl, hcap, hgB, hgw, HR.out⟩, Below.refl _ _⟩
        · have HE := tail (fun x hx => by rw [X0.out] at hx; injection hx with hx; omega)
          have hyb : (y == n) = false := by simpa using hyn
          clear HT hlo HAT tail X0
          have hkl : (k : Int) ≤ (l.length : Int) := by omega
          have hk0 : (0 : Int) ≤ (k : Int) := by omega
          have hkc : (k : Int) ≤ (cap : Int) := by omega
          have HLT : Hid ((l.take k).length = k) := by show _ = _; rw [List.length_take]; omega
          have HLD : Hid ((l.drop k).length = l.length - k) := by show _ = _; rw [List.length_drop]
          have hO1 : (wr.alloc (.cells #[] 2)).ownsRow wr.heap.size 2 1 (.slice (some ⟨wr.heap.size, 0, none⟩) 0 0) 0 [] := World.ownsRow_made wr #[] 0 (Nat.le_refl _) (by decide) (by simp)
          have HO1 : Hid ((wr.alloc (.cells #[] 2)).ownsRow wr.heap.size 2 1 (.slice (some ⟨wr.heap.size, 0, none⟩) 0 0) 0 []) := hO1
          clear hO1
          go_wp2_with (at_builtin; refine wpList_append_own _ rfl _ _ 26 rfl wr.heap.size 2 i0 (.int .i64 0) 1 8 Tryz.underlying26 hif hz0 hz1 hz2 rfl (by decide) _ _ _ rfl HO1.out ⟨g, k, none⟩ (l.length - k) (cap - k) (nums (l.drop k)) rfl (by simp [nums]) (irow_nums (irow_drop (HR.out.on ((Below.refl _ _).alloc (Nat.le_refl _) _)))) (nums_one _) (by unfold maxLen; omega) (by omega) (by simp) ?_)
          intro v1 w1 hown1 hgrow1 hnil1
          have hb1 : Below wr.heap.size wr w1 := ((Below.refl _ _).alloc (Nat.le_refl _) _).grown hgrow1 (by simp) (fun q hq => by simp [Value.ownBlock] at hq; omega)
          have hBw1 : B0 ≤ w1.heap.size := Nat.le_trans hB0 hb1.size
          have HG1 : Hid (Grow wr.heap.size w1 v1 (l.drop k)) := grow_app (a := []) hown1 (by simp) (fun h => by first | exact hnil1 h | exact absurd (hnil1.1 h).1 (by simp))
          clear hown1 hgrow1 hnil1 HO1
          obtain ⟨g1, c1, rfl⟩ := HG1.out.form
          have HI1 : Hid (IRow w1 g1 0 (l.drop k)) := by
            obtain ⟨_, _, hv, _, _, hi, _⟩ := HG1.out.gint
            injection hv with e1 e2 e3
            injection e1 with e1
            injection e1 with e1
            subst e1
            exact hi
          rw [HLD.out]
          have HR1 : Hid (IRow w1 g 0 l) := HR.out.on hb1
          have hO2 : (w1.alloc (.cells #[] 2)).ownsRow w1.heap.size 2 1 (.slice (some ⟨w1.heap.size, 0, none⟩) 0 0) 0 [] := World.ownsRow_made w1 #[] 0 (Nat.le_refl _) (by decide) (by simp)
          have HO2 : Hid ((w1.alloc (.cells #[] 2)).ownsRow w1.heap.size 2 1 (.slice (some ⟨w1.heap.size, 0, none⟩) 0 0) 0 []) := hO2
          clear hO2
          go_wp2_with (at_builtin; refine wpList_append_own _ rfl _ _ 26 rfl w1.heap.size 2 i0 (.int .i64 0) 1 8 Tryz.underlying26 hif hz0 hz1 hz2 rfl (by decide) _ _ _ rfl HO2.out ⟨g, 0, none⟩ k cap (nums (l.take k)) rfl (by simp [nums]; omega) (irow_nums (irow_take (HR1.out.on ((Below.refl _ _).alloc (Nat.le_refl _) _)))) (nums_one _) (by unfold maxLen; omega) (by omega) (by simp) ?_)
          intro v2 w2 hown2 hgrow2 hnil2
          have hb2 : Below w1.heap.size w1 w2 := ((Below.refl _ _).alloc (Nat.le_refl _) _).grown hgrow2 (by simp) (fun q hq => by simp [Value.ownBlock] at hq; omega)
          have HG2 : Hid (Grow w1.heap.size w2 v2 (l.take k)) := grow_app (a := []) hown2 (by simp; omega) (fun h => by first | exact hnil2 h | exact absurd (hnil2.1 h).1 (by simp))
          clear hown2 hgrow2 hnil2 HO2
          obtain ⟨g2, c2, rfl⟩ := HG2.out.form
          rw [HLT.out]
          have HX2 : Hid (w2.ownsRow w1.heap.size 2 1 (.slice (some ⟨g2, 0, none⟩) k c2) k (nums (l.take k))) := by have h := HG2.out.1; rw [HLT.out] at h; exact h
          have hz2' : w1.heap.size ≤ w2.heap.size := hb2.size
          go_wp2_with (at_builtin; refine wpList_append_own _ rfl _ _ 26 rfl w1.heap.size 2 i0 (.int .i64 0) 1 8 Tryz.underlying26 hif hz0 hz1 hz2 rfl (by decide) _ _ _ rfl (HX2.out.alloc _) ⟨w2.heap.size, 0, none⟩ 1 1 [.int .i64 n] rfl rfl (cell_one_new _ _ _) (by simp [Value.oneCell']) (by unfold maxLen; omega) (by omega) (by simp; omega) ?_)
          intro v3 w3 hown3 hgrow3 hnil3
          have hb3 : Below w1.heap.size w1 w3 := (hb2.alloc hb2.size _).grown hgrow3 (by simp; omega) (fun q hq => by simp [Value.ownBlock] at hq; subst hq; exact (HX2.out.lt g2 rfl).1)
          have HG3 : Hid (Grow w1.heap.size w3 v3 (l.take k ++ [n])) := grow_app (b := [n]) hown3 (by rw [List.length_append, HLT.out]; rfl) (fun h => by first | exact hnil3 h | exact absurd (hnil3.1 h).1 (by simp))
          clear hown3 hgrow3 hnil3 HG2 hb2 HX2
          obtain ⟨g3, c3, rfl⟩ := HG3.out.form
          have HL3 : Hid ((l.take k ++ [n]).length = k + 1) := by show _ = _; rw [List.length_append, HLT.out]; rfl
          rw [HL3.out]
          have HX3 : Hid (w3.ownsRow w1.heap.size 2 1 (.slice (some ⟨g3, 0, none⟩) (k + 1) c3) (k + 1) (nums (l.take k ++ [n]))) := by have h := HG3.out.1; rw [HL3.out] at h; exact h
          have hz3 : w1.heap.size ≤ w3.heap.size := hb3.size
          have HI3 : Hid (IRow w3 g1 0 (l.drop k)) := HI1.out.on hb3
          go_wp2_with (at_builtin; refine wpList_append_own _ rfl _ _ 26 rfl w1.heap.size 2 i0 (.int .i64 0) 1 8 Tryz.underlying26 hif hz0 hz1 hz2 rfl (by decide) _ _ _ rfl HX3.out ⟨g1, 0, none⟩ (l.length - k) c1 (nums (l.drop k)) rfl (by simp [nums]) (irow_nums HI3.out) (nums_one _) (by unfold maxLen; omega) (by omega) hz3 ?_)
          intro v4 w4 hown4 hgrow4 hnil4
          have hb4 : Below w1.heap.size w1 w4 := hb3.grown hgrow4 hz3 (fun q hq => by simp [Value.ownBlock] at hq; subst hq; exact (HX3.out.lt g3 rfl).1)
          have HG4 : Hid (Grow w1.heap.size w4 v4 ((l.take k ++ [n]) ++ l.drop k)) := grow_app hown4 (by rw [List.length_append, HLD.out, HL3.out]) (fun h => by first | exact hnil4 h | exact absurd (hnil4.1 h).1 (by simp))
          have HB4 : Hid (Below wr.heap.size wr w4) := below_over hb1 hb4
          clear hown4 hgrow4 hnil4 hb4 hb3 hb1
          go_wp2
          go_ret
          exact ⟨_, rfl, by rw [HE.out]; exact lstB_of HG4.out (by first | exact hBw1 | exact hB0), HB4.out⟩
    · have HE := tail (fun x hx => by have := (List.getElem?_eq_some_iff.1 hx).1; omega)
      have hke : k = l.length := by omega
      subst hke
      rw [List.take_length, List.drop_length, List.append_nil] at HE
      clear hlo HAT tail
      have hkc : (l.length : Int) ≤ (cap : Int) := by omega
      rcases Nat.eq_or_lt_of_le hcap with hcc | hcc
      · subst hcc
        have HO1 : Hid ((wr.alloc (.cells #[] 2)).ownsRow wr.heap.size 2 1 (.slice (some ⟨wr.heap.size, 0, none⟩) 0 0) 0 []) := World.ownsRow_made wr #[] 0 (Nat.le_refl _) (by decide) (by simp)
        go_wp2_with (at_builtin; refine wpList_append_own _ rfl _ _ 26 rfl wr.heap.size 2 i0 (.int .i64 0) 1 8 Tryz.underlying26 hif hz0 hz1 hz2 rfl (by decide) _ _ _ rfl HO1.out _ 0 _ [] rfl rfl (by intro j u h; simp at h) (by simp) (by unfold maxLen; omega) (by omega) (by simp) ?_)
        intro v1 w1 hown1 hgrow1 hnil1
        have hb1 : Below wr.heap.size wr w1 := ((Below.refl _ _).alloc (Nat.le_refl _) _).grown hgrow1 (by simp) (fun q hq => by simp [Value.ownBlock] at hq; omega)
        have hBw1 : B0 ≤ w1.heap.size := Nat.le_trans hB0 hb1.size
        have HG1 : Hid (Grow wr.heap.size w1 v1 []) := grow_app (a := []) (b := []) hown1 (by simp) (fun h => by first | exact hnil1 h | exact absurd (hnil1.1 h).1 (by simp))
        clear hown1 hgrow1 hnil1 HO1
        obtain ⟨g1, c1, rfl⟩ := HG1.out.form
        rw [List.length_nil]
        have HR1 : Hid (IRow w1 g 0 l) := HR.out.on hb1
        have HO2 : Hid ((w1.alloc (.cells #[] 2)).ownsRow w1.heap.size 2 1 (.slice (some ⟨w1.heap.size, 0, none⟩) 0 0) 0 []) := World.ownsRow_made w1 #[] 0 (Nat.le_refl _) (by decide) (by simp)
        go_wp2_with (at_builtin; refine wpList_append_own _ rfl _ _ 26 rfl w1.heap.size 2 i0 (.int .i64 0) 1 8 Tryz.underlying26 hif hz0 hz1 hz2 rfl (by decide) _ _ _ rfl HO2.out ⟨g, 0, none⟩ l.length _ (nums l) rfl (by simp [nums]) (irow_nums (HR1.out.on ((Below.refl _ _).alloc (Nat.le_refl _) _))) (nums_one _) (by unfold maxLen; omega) (by omega) (by simp) ?_)
        intro v2 w2 hown2 hgrow2 hnil2
        have hb2 : Below w1.heap.size w1 w2 := ((Below.refl _ _).alloc (Nat.le_refl _) _).grown hgrow2 (by simp) (fun q hq => by simp [Value.ownBlock] at hq; omega)
        have HG2 : Hid (Grow w1.heap.size w2 v2 l) := grow_app (a := []) hown2 (by simp) (fun h => by first | exact hnil2 h | exact absurd (hnil2.1 h).1 (by simp))
        clear hown2 hgrow2 hnil2 HO2
        obtain ⟨g2, c2, rfl⟩ := HG2.out.form
        have hz2' : w1.heap.size ≤ w2.heap.size := hb2.size
        go_wp2_with (at_builtin; refine wpList_append_own _ rfl _ _ 26 rfl w1.heap.size 2 i0 (.int .i64 0) 1 8 Tryz.underlying26 hif hz0 hz1 hz2 rfl (by decide) _ _ _ rfl (HG2.out.1.alloc _) ⟨w2.heap.size, 0, none⟩ 1 1 [.int .i64 n] rfl rfl (cell_one_new _ _ _) (by simp [Value.oneCell']) (by unfold maxLen; omega) (by omega) (by simp; omega) ?_)
        intro v3 w3 hown3 hgrow3 hnil3
        have hb3 : Below w1.heap.size w1 w3 := (hb2.alloc hb2.size _).grown hgrow3 (by simp; omega) (fun q hq => by simp [Value.ownBlock] at hq; subst hq; exact (HG2.out.1.lt g2 rfl).1)
        have HG3 : Hid (Grow w1.heap.size w3 v3 (l ++ [n])) := grow_next hown3 (fun h => by first | exact hnil3 h | exact absurd (hnil3.1 h).1 (by simp))
        clear hown3 hgrow3 hnil3 HG2 hb2
        obtain ⟨g3, c3, rfl⟩ := HG3.out.form
        have HL3 : Hid ((l ++ [n]).length = l.length + 1) := by show _ = _; rw [List.length_append]; rfl
        rw [HL3.out]
        have HX3 : Hid (w3.ownsRow w1.heap.size 2 1 (.slice (some ⟨g3, 0, none⟩) (l.length + 1) c3) (l.length + 1) (nums (l ++ [n]))) := by have h := HG3.out.1; rw [HL3.out] at h; exact h
        have hz3 : w1.heap.size ≤ w3.heap.size := hb3.size
        go_wp2_with (at_builtin; refine wpList_append_own _ rfl _ _ 26 rfl w1.heap.size 2 i0 (.int .i64 0) 1 8 Tryz.underlying26 hif hz0 hz1 hz2 rfl (by decide) _ _ _ rfl HX3.out ⟨g1, 0, none⟩ 0 c1 [] rfl rfl (by intro j u h; simp at h) (by simp) (by unfold maxLen; omega) (by omega) hz3 ?_)
        intro v4 w4 hown4 hgrow4 hnil4
        have hb4 : Below w1.heap.size w1 w4 := hb3.grown hgrow4 hz3 (fun q hq => by simp [Value.ownBlock] at hq; subst hq; exact (HX3.out.lt g3 rfl).1)
        have HG4 : Hid (Grow w1.heap.size w4 v4 (l ++ [n])) := ⟨by rw [HL3.out]; exact hown4, fun h => by first | exact hnil4 h | exact absurd (hnil4.1 h).1 (by simp)⟩
        have HB4 : Hid (Below wr.heap.size wr w4) := below_over hb1 hb4
        clear hown4 hgrow4 hnil4 hb4 hb3 hb1
        go_wp2
        go_ret
        exact ⟨_, rfl, by rw [HE.out]; exact lstB_of HG4.out (by first | exact hBw1 | exact hB0), HB4.out⟩
      · have hcc1 : ¬ (cap - l.length = 0) := by omega
        have hcc2 : (l.length : Int) < (cap : Int) := by omega
        have hcc3 : cap ≠ l.length := by omega
        have HO1 : Hid ((wr.alloc (.cells #[] 2)).ownsRow wr.heap.size 2 1 (.slice (some ⟨wr.heap.size, 0, none⟩) 0 0) 0 []) := World.ownsRow_made wr #[] 0 (Nat.le_refl _) (by decide) (by simp)
        go_wp2_with (at_builtin; refine wpList_append_own _ rfl _ _ 26 rfl wr.heap.size 2 i0 (.int .i64 0) 1 8 Tryz.underlying26 hif hz0 hz1 hz2 rfl (by decide) _ _ _ rfl HO1.out _ 0 _ [] rfl rfl (by intro j u h; simp at h) (by simp) (by unfold maxLen; omega) (by omega) (by simp) ?_)
        intro v1 w1 hown1 hgrow1 hnil1
        have hb1 : Below wr.heap.size wr w1 := ((Below.refl _ _).alloc (Nat.le_refl _) _).grown hgrow1 (by simp) (fun q hq => by simp [Value.ownBlock] at hq; omega)
        have hBw1 : B0 ≤ w1.heap.size := Nat.le_trans hB0 hb1.size
        have HG1 : Hid (Grow wr.heap.size w1 v1 []) := grow_app (a := []) (b := []) hown1 (by simp) (fun h => by first | exact hnil1 h | exact absurd (hnil1.1 h).1 (by simp))
        clear hown1 hgrow1 hnil1 HO1
        obtain ⟨g1, c1, rfl⟩ := HG1.out.form
        rw [List.length_nil]
        have HR1 : Hid (IRow w1 g 0 l) := HR.out.on hb1
        have HO2 : Hid ((w1.alloc (.cells #[] 2)).ownsRow w1.heap.size 2 1 (.slice (some ⟨w1.heap.size, 0, none⟩) 0 0) 0 []) := World.ownsRow_made w1 #[] 0 (Nat.le_refl _) (by decide) (by simp)
        go_wp2_with (at_builtin; refine wpList_append_own _ rfl _ _ 26 rfl w1.heap.size 2 i0 (.int .i64 0) 1 8 Tryz.underlying26 hif hz0 hz1 hz2 rfl (by decide) _ _ _ rfl HO2.out ⟨g, 0, none⟩ l.length _ (nums l) rfl (by simp [nums]) (irow_nums (HR1.out.on ((Below.refl _ _).alloc (Nat.le_refl _) _))) (nums_one _) (by unfold maxLen; omega) (by omega) (by simp) ?_)
        intro v2 w2 hown2 hgrow2 hnil2
        have hb2 : Below w1.heap.size w1 w2 := ((Below.refl _ _).alloc (Nat.le_refl _) _).grown hgrow2 (by simp) (fun q hq => by simp [Value.ownBlock] at hq; omega)
        have HG2 : Hid (Grow w1.heap.size w2 v2 l) := grow_app (a := []) hown2 (by simp) (fun h => by first | exact hnil2 h | exact absurd (hnil2.1 h).1 (by simp))
        clear hown2 hgrow2 hnil2 HO2
        obtain ⟨g2, c2, rfl⟩ := HG2.out.form
        have hz2' : w1.heap.size ≤ w2.heap.size := hb2.size
        go_wp2_with (at_builtin; refine wpList_append_own _ rfl _ _ 26 rfl w1.heap.size 2 i0 (.int .i64 0) 1 8 Tryz.underlying26 hif hz0 hz1 hz2 rfl (by decide) _ _ _ rfl (HG2.out.1.alloc _) ⟨w2.heap.size, 0, none⟩ 1 1 [.int .i64 n] rfl rfl (cell_one_new _ _ _) (by simp [Value.oneCell']) (by unfold maxLen; omega) (by omega) (by simp; omega) ?_)
        intro v3 w3 hown3 hgrow3 hnil3
        have hb3 : Below w1.heap.size w1 w3 := (hb2.alloc hb2.size _).grown hgrow3 (by simp; omega) (fun q hq => by simp [Value.ownBlock] at hq; subst hq; exact (HG2.out.1.lt g2 rfl).1)
        have HG3 : Hid (Grow w1.heap.size w3 v3 (l ++ [n])) := grow_next hown3 (fun h => by first | exact hnil3 h | exact absurd (hnil3.1 h).1 (by simp))
        clear hown3 hgrow3 hnil3 HG2 hb2
        obtain ⟨g3, c3, rfl⟩ := HG3.out.form
        have HL3 : Hid ((l ++ [n]).length = l.length + 1) := by show _ = _; rw [List.length_append]; rfl
        rw [HL3.out]
        have HX3 : Hid (w3.ownsRow w1.heap.size 2 1 (.slice (some ⟨g3, 0, none⟩) (l.length + 1) c3) (l.length + 1) (nums (l ++ [n]))) := by have h := HG3.out.1; rw [HL3.out] at h; exact h
        have hz3 : w1.heap.size ≤ w3.heap.size := hb3.size
        go_wp2_with (at_builtin; refine wpList_append_own _ rfl _ _ 26 rfl w1.heap.size 2 i0 (.int .i64 0) 1 8 Tryz.underlying26 hif hz0 hz1 hz2 rfl (by decide) _ _ _ rfl HX3.out ⟨g1, 0, none⟩ 0 c1 [] rfl rfl (by intro j u h; simp at h) (by simp) (by unfold maxLen; omega) (by omega) hz3 ?_)
        intro v4 w4 hown4 hgrow4 hnil4
        have hb4 : Below w1.heap.size w1 w4 := hb3.grown hgrow4 hz3 (fun q hq => by simp [Value.ownBlock] at hq; subst hq; exact (HX3.out.lt g3 rfl).1)
        have HG4 : Hid (Grow w1.heap.size w4 v4 (l ++ [n])) := ⟨by rw [HL3.out]; exact hown4, fun h => by first | exact hnil4 h | exact absurd (hnil4.1 h).1 (by simp)⟩
        have HB4 : Hid (Below wr.heap.size wr w4) := below_over hb1 hb4
        clear hown4 hgrow4 hnil4 hb4 hb3 hb1
        go_wp2
        go_ret
        exact ⟨_, rfl, by rw [HE.out]; exact lstB_of HG4.out (by first | exact hBw1 | exact hB0), HB4.out⟩
set_option maxRecDepth 100000 in
set_option maxHeartbeats 2000000 in
theorem l9NextsB (g yc : Nat) (code : List Tx.Ins) (hl : code.length ≤ 1000) (k : Nat) (hk : k < code.length) (w : World) (hrow : Row w g 0 code) :
    Calls Tryz.prog 68 #[.slice (some ⟨g, 0, none⟩) code.length yc, .int .i64 k] w fun e w' => ∃ v, e = .returned v ∧ LstB w.heap.size w' v (nextsF code k) ∧ Below w.heap.size w w' := by
  have hx : code[k]? = some (insF code k) := by unfold insF; rw [List.getD_eq_getElem?_getD, List.getElem?_eq_getElem hk]; rfl
  obtain ⟨d0, d1, d2⟩ := hrow k _ hx
  simp only [Nat.zero_add] at d0 d1 d2
  have hki : (k : Int) < (code.length : Int) := by omega
  rw [nexts_is]
  generalize insF code k = ins at *
  obtain ⟨op, A, b⟩ := ins
  dsimp only at d0 d1 d2 ⊢
  have hw2 : Below w.heap.size w ((w.alloc (.cells #[.int .i64 op, .int .i64 A, .int .i64 b] 73)).alloc (.cells #[] 2)) := ((Below.refl _ _).alloc (Nat.le_refl _) _).alloc (by simp) _
  have CI2 : Hid (Cells ((w.alloc (.cells #[.int .i64 op, .int .i64 A, .int .i64 b] 73)).alloc (.cells #[] 2)) w.heap.size [.int .i64 op, .int .i64 A, .int .i64 b]) := (Cells.new w _ rfl _ _).alloc _
  have CI3 : Hid (Cells (((w.alloc (.cells #[.int .i64 op, .int .i64 A, .int .i64 b] 73)).alloc (.cells #[] 2)).alloc (.cells #[.int .i64 ((k : Int) + 1)] 2)) w.heap.size [.int .i64 op, .int .i64 A, .int .i64 b]) := ((Cells.new w _ rfl _ _).alloc _).alloc _
  have hge : Grow (w.heap.size + 1) ((w.alloc (.cells #[.int .i64 op, .int .i64 A, .int .i64 b] 73)).alloc (.cells #[] 2)) (.slice (some ⟨w.heap.size + 1, 0, none⟩) 0 0) [] := by
    have h := grow_empty (w.alloc (.cells #[.int .i64 op, .int .i64 A, .int .i64 b] 73)) (B := w.heap.size + 1) (by simp)
    simpa using h
  have HGL : Hid (Grow (w.heap.size + 1) (((w.alloc (.cells #[.int .i64 op, .int .i64 A, .int .i64 b] 73)).alloc (.cells #[] 2)).alloc (.cells #[.int .i64 ((k : Int) + 1)] 2)) (.slice (some ⟨w.heap.size + 1, 0, none⟩) 0 0) []) := growOn hge (allocBelow _ _)
  have HL0 : Hid (LstB w.heap.size ((w.alloc (.cells #[.int .i64 op, .int .i64 A, .int .i64 b] 73)).alloc (.cells #[] 2)) (.slice (some ⟨w.heap.size + 1, 0, none⟩) 0 0) []) := lstB_of hge (Nat.le_succ _)
  have HSI : Hid (SI true (w.heap.size + 1) (((w.alloc (.cells #[.int .i64 op, .int .i64 A, .int .i64 b] 73)).alloc (.cells #[] 2)).alloc (.cells #[.int .i64 ((k : Int) + 1)] 2)) (.slice (some ⟨w.heap.size + 1 + 1, 0, none⟩) 1 1) [(k : Int) + 1]) := by
    have h := SI.weak (grow_lit1 ((w.alloc (.cells #[.int .i64 op, .int .i64 A, .int .i64 b] 73)).alloc (.cells #[] 2)) ((k : Int) + 1)).gint.si (B' := w.heap.size + 1) (by simp)
    show SI _ _ _ _ _
    simpa using h
  clear hx hrow hge
  by_cases h11 : op = 11
  · subst h11
    have HV : Hid (nextsL 11 A k code.length = putL [] A) := by show _ = _; simp [nextsL]
    rw [HV.out]
    have hjb : Lay.jumpB 11 = true := by simp [Lay.jumpB]
    go_enter Tryz.func68, Tryz.ntmps68
    obtain ⟨i0, _⟩ := CI2.out.g0
    obtain ⟨i1, _⟩ := CI2.out.g1
    go_wp2_with fail
    refine (St.l3Jump 11 ((w.alloc (.cells #[.int .i64 11, .int .i64 A, .int .i64 b] 73)).alloc (.cells #[] 2))).mono ?_
    rw [hjb]
    rintro e _ ⟨rfl, rfl⟩
    go_wp2_with fail
    refine (l1PutB w.heap.size ([] : List Int) (.slice (some ⟨w.heap.size + 1, 0, none⟩) 0 0) A (by simp) ((w.alloc (.cells #[.int .i64 11, .int .i64 A, .int .i64 b] 73)).alloc (.cells #[] 2)) (by simp; omega) HL0.out).mono ?_
    rintro e w3 ⟨v', rfl, hls, hb3⟩
    have hw3 : Below w.heap.size w w3 := below_over hw2 hb3
    clear hb3
    go_wp2
    go_ret
    exact ⟨_, rfl, hls, hw3⟩
  · have hn11 : (op != 11) = true := by simp [h11]
    by_cases h20 : op = 20
    · subst h20
      clear hn11
      have HV : Hid (nextsL 20 A k code.length = []) := by show _ = _; simp [nextsL]
      rw [HV.out]
      have hjb : Lay.jumpB 20 = false := by simp [Lay.jumpB]
      go_enter Tryz.func68, Tryz.ntmps68
      obtain ⟨i0, _⟩ := CI2.out.g0
      obtain ⟨i1, _⟩ := CI2.out.g1
      go_wp2_with fail
      refine (St.l3Jump 20 ((w.alloc (.cells #[.int .i64 20, .int .i64 A, .int .i64 b] 73)).alloc (.cells #[] 2))).mono ?_
      rw [hjb]
      rintro e _ ⟨rfl, rfl⟩
      go_wp2
      go_ret
      exact ⟨_, rfl, HL0.out, hw2⟩
    · have hn20 : (op != 20) = true := by simp [h20]
      by_cases hlt : k + 1 < code.length
      · have hli : (k : Int) + 1 < (code.length : Int) := by omega
        have hld : decide ((k : Int) + 1 < (code.length : Int)) = true := by simp; omega
        by_cases h12 : op = 12
        · subst h12
          clear hn11 hn20
          have HV : Hid (nextsL 12 A k code.length = putL [(k : Int) + 1] A) := by show _ = _; simp [nextsL, hlt]
          rw [HV.out]
          have hjb : Lay.jumpB 12 = true := by simp [Lay.jumpB]
          go_enter Tryz.func68, Tryz.ntmps68
          go_wp2_with (at_builtin; refine wpList_grow rfl _ _ rfl (w.heap.size + 1) _ _ rfl HGL.out (by simp) _ _ _ [(k : Int) + 1] rfl HSI.out (by simp) ?_)
          intro v1 w1 hg1 hk1
          have hw1 : Below w.heap.size w w1 := ((((Below.refl _ _).alloc (Nat.le_refl _) _).alloc (by simp) _).alloc (by simp; omega) _).trans (hk1.below.mono (Nat.le_succ _))
          have CI1 : Cells w1 w.heap.size [.int .i64 12, .int .i64 A, .int .i64 b] := CI3.out.low hk1.below (Nat.lt_succ_self _)
          have HGW : Hid (Grow (w.heap.size + 1) w1 v1 [(k : Int) + 1]) := hg1
          obtain ⟨i0, _⟩ := CI1.g0
          obtain ⟨i1, _⟩ := CI1.g1
          clear hg1 hk1
          go_wp2_with fail
          refine (St.l3Jump 12 w1).mono ?_
          rw [hjb]
          rintro e _ ⟨rfl, rfl⟩
          go_wp2_with fail
          refine (l1PutB w.heap.size [(k : Int) + 1] v1 A (by simp) w1 hw1.size (lstB_of HGW.out (by first | exact Nat.le_refl _ | omega))).mono ?_
          rintro e w3 ⟨v', rfl, hls, hb3⟩
          have hw3 : Below w.heap.size w w3 := below_over hw1 hb3
          clear hb3
          go_wp2
          go_ret
          exact ⟨_, rfl, hls, hw3⟩
        · have HV : Hid (nextsL op A k code.length = [(k : Int) + 1]) := by show _ = _; simp [nextsL, h11, h20, h12, hlt]
          rw [HV.out]
          have hjb : Lay.jumpB op = false := by simp [Lay.jumpB, h11, h12]
          go_enter Tryz.func68, Tryz.ntmps68
          go_wp2_with (at_builtin; refine wpList_grow rfl _ _ rfl (w.heap.size + 1) _ _ rfl HGL.out (by simp) _ _ _ [(k : Int) + 1] rfl HSI.out (by simp) ?_)
          intro v1 w1 hg1 hk1
          have hw1 : Below w.heap.size w w1 := ((((Below.refl _ _).alloc (Nat.le_refl _) _).alloc (by simp) _).alloc (by simp; omega) _).trans (hk1.below.mono (Nat.le_succ _))
          have CI1 : Cells w1 w.heap.size [.int .i64 op, .int .i64 A, .int .i64 b] := CI3.out.low hk1.below (Nat.lt_succ_self _)
          have HGW : Hid (Grow (w.heap.size + 1) w1 v1 [(k : Int) + 1]) := hg1
          obtain ⟨i0, _⟩ := CI1.g0
          obtain ⟨i1, _⟩ := CI1.g1
          clear hg1 hk1
          go_wp2_with fail
          refine (St.l3Jump op w1).mono ?_
          rw [hjb]
          rintro e _ ⟨rfl, rfl⟩
          go_wp2
          go_ret
          exact ⟨_, rfl, lstB_of HGW.out (by first | exact Nat.le_refl _ | omega), hw1⟩
      · have hli : ¬ (k : Int) + 1 < (code.length : Int) := by omega
        have hld : decide ((k : Int) + 1 < (code.length : Int)) = false := by simp; omega
        by_cases h12 : op = 12
        · subst h12
          clear hn11 hn20
          have HV : Hid (nextsL 12 A k code.length = putL [] A) := by show _ = _; simp [nextsL, hlt]
          rw [HV.out]
          have hjb : Lay.jumpB 12 = true := by simp [Lay.jumpB]
          go_enter Tryz.func68, Tryz.ntmps68
          obtain ⟨i0, _⟩ := CI2.out.g0
          obtain ⟨i1, _⟩ := CI2.out.g1
          go_wp2_with fail
          refine (St.l3Jump 12 ((w.alloc (.cells #[.int .i64 12, .int .i64 A, .int .i64 b] 73)).alloc (.cells #[] 2))).mono ?_
          rw [hjb]
          rintro e _ ⟨rfl, rfl⟩
          go_wp2_with fail
          refine (l1PutB w.heap.size ([] : List Int) (.slice (some ⟨w.heap.size + 1, 0, none⟩) 0 0) A (by simp) ((w.alloc (.cells #[.int .i64 12, .int .i64 A, .int .i64 b] 73)).alloc (.cells #[] 2)) (by simp; omega) HL0.out).mono ?_
          rintro e w3 ⟨v', rfl, hls, hb3⟩
          have hw3 : Below w.heap.size w w3 := below_over hw2 hb3
          clear hb3
          go_wp2
          go_ret
          exact ⟨_, rfl, hls, hw3⟩
        · have HV : Hid (nextsL op A k code.length = []) := by show _ = _; simp [nextsL, h11, h12, hlt]
          rw [HV.out]
          have hjb : Lay.jumpB op = false := by simp [Lay.jumpB, h11, h12]
          go_enter Tryz.func68, Tryz.ntmps68
          obtain ⟨i0, _⟩ := CI2.out.g0
          obtain ⟨i1, _⟩ := CI2.out.g1
          go_wp2_with fail
          refine (St.l3Jump op ((w.alloc (.cells #[.int .i64 op, .int .i64 A, .int .i64 b] 73)).alloc (.cells #[] 2))).mono ?_
          rw [hjb]
          rintro e _ ⟨rfl, rfl⟩
          go_wp2
          go_ret
          exact ⟨_, rfl, HL0.out, hw2⟩
end Pg
end Go.Proofs.YtinanjjhkddikaaGreat

/- The leaders, as a list of its own (the specification's). -/
namespace Go.Proofs.YtinanjjhkddikaaGreat
namespace Pg
open Go.ChangeShapes Go.WideShapes Go.ChangeAt Go.RowKit St

theorem LstB.form {B : Nat} {w : World} {v : Value} {l : List Int} (h : LstB B w v l) : ∃ g c, v = .slice (some ⟨g, 0, none⟩) l.length c := by
  obtain ⟨g, c, hv, _⟩ := h
  exact ⟨g, c, hv⟩
theorem LstB.on {B : Nat} {u w : World} {v : Value} {l : List Int} (h : LstB B u v l) (hb : Below u.heap.size u w) : LstB B w v l := by
  obtain ⟨g, c, h1, h2, h3, h4, h5⟩ := h
  exact ⟨g, c, h1, h2, h3, Nat.lt_of_lt_of_le h4 hb.size, h5.on hb⟩
theorem LstB.lst {B : Nat} {w : World} {v : Value} {l : List Int} (h : LstB B w v l) : Lst w v l := by
  obtain ⟨g, c, h1, h2, h3, h4, h5⟩ := h
  exact ⟨g, c, h1, h2, h4, h5⟩
end Pg
end Go.Proofs.YtinanjjhkddikaaGreat
