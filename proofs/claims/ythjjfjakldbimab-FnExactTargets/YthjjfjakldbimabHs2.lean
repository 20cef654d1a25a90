/- Contracts of the other side's putting of a number into a list that rises, and of its Targets. -/
import Derived.Test.YthjjfjakldbimabHs1
import Derived.Test.YthjjfjakldbimabHi8
namespace Go.Proofs.Ythjjfjakldbimab
namespace Pg
open Go.ChangeShapes Go.WideShapes Go.ChangeAt Go.RowKit St

/-- A row of numbers at the front of a block. -/
def Lst (w : World) (v : Value) (l : List Int) : Prop := ∃ g c, v = .slice (some ⟨g, 0, none⟩) l.length c ∧ l.length ≤ c ∧ g < w.heap.size ∧ IRow w g 0 l
theorem Lst.on {u w : World} {v : Value} {l : List Int} (h : Lst u v l) (hb : Below u.heap.size u w) : Lst w v l := by
  obtain ⟨g, c, h1, h2, h3, h4⟩ := h
  exact ⟨g, c, h1, h2, Nat.lt_of_lt_of_le h3 hb.size, h4.on hb⟩
theorem Grow.lst {B : Nat} {w : World} {v : Value} {l : List Int} (h : Grow B w v l) : Lst w v l := by
  obtain ⟨g, c, hv, h1, h2, h3, _⟩ := h.gint
  have h' := h.1
  rw [hv] at h'
  exact ⟨g, c, hv, (own_block h').1, h2, h3⟩
theorem irow_nums {w : World} {g o : Nat} {l : List Int} (h : IRow w g o l) : ∀ j u, (nums l)[j]? = some u → w.cell? ((⟨g, o, none⟩ : Addr).add j) = some u := by
  intro j u hu
  rw [Go.WideShapes.add_plain]
  simp only [nums, List.getElem?_map, Option.map_eq_some_iff] at hu
  obtain ⟨x, hx, rfl⟩ := hu
  exact h j x hx
theorem irow_drop {w : World} {g k : Nat} {l : List Int} (h : IRow w g 0 l) : IRow w g k (l.drop k) := fun j x hj => by
  have := h (k + j) x (by rw [← hj, List.getElem?_drop])
  rw [Nat.zero_add] at this
  exact this
theorem irow_take {w : World} {g k : Nat} {l : List Int} (h : IRow w g 0 l) : IRow w g 0 (l.take k) := fun j x hj => by
  rw [List.getElem?_take] at hj
  split at hj
  · exact h j x hj
  · simp at hj
theorem grow_app {w : World} {B n : Nat} {v : Value} {a b : List Int} (h : w.ownsRow B 2 1 v n (nums a ++ nums b)) (hn : n = (a ++ b).length) (hv : v ≠ .slice none 0 0) : Grow B w v (a ++ b) := by
  refine ⟨?_, hv⟩
  have e : nums (a ++ b) = nums a ++ nums b := by simp [nums]
  rw [e, ← hn]
  exact h

set_option maxRecDepth 100000 in
set_option maxHeartbeats 2000000 in
theorem l1Put (l : List Int) (v : Value) (n : Int) (hl : l.length ≤ 12) (w : World) (h : Lst w v l) :
    Calls Try.prog 45 #[v, .int .i64 n] w fun e w' => ∃ v', e = .returned v' ∧ Lst w' v' (putL l n) ∧ Below w.heap.size w w' := by
  obtain ⟨i0, hif, hz0, hz1, hz2⟩ := info_parts infoN
  obtain ⟨g, cap, rfl, hcap, hgw, hir⟩ := h
  have HR : Hid (IRow w g 0 l) := hir
  clear hir
  go_enter Try.func45, Try.ntmps45
  go_wp2
  go_loopw [5] (fun i wr => ∃ k : Nat, k ≤ l.length ∧ i = .int .i64 (k : Int) ∧ Hid (∀ x ∈ l.take k, x < n) ∧ wr = w) (fun i _ => l.length - (intOf i).toNat)
  case atStart => exact ⟨0, Nat.zero_le _, rfl, fun x hx => by simp at hx, rfl⟩
  case round =>
    obtain ⟨k, hk, rfl, hlo, rfl⟩ := hrel
    have HAT : Hid ((∀ x, l[k]? = some x → x = n → putL l n = l) ∧ ((∀ x, l[k]? = some x → n < x) → putL l n = l.take k ++ n :: l.drop k)) := putL_at hlo.out hk
    have tail : ∀ (hne : ∀ x, l[k]? = some x → n < x), Hid (putL l n = (l.take k ++ [n]) ++ l.drop k) := fun hne => by show _ = _; rw [HAT.out.2 hne]; simp
    by_cases hlt : k < l.length
    · have c0 := HR.out k _ (List.getElem?_eq_getElem hlt)
      have X0 : Hid (l[k]? = some l[k]) := List.getElem?_eq_getElem hlt
      have HT : Hid (l[k] < n → ∀ x ∈ l.take (k + 1), x < n) := fun h x hx => by
        rw [List.take_succ_eq_append_getElem hlt] at hx
        rcases List.mem_append.1 hx with hx | hx
        · exact hlo.out x hx
        · simp at hx; subst hx; exact h
      generalize l[k] = y at *
      rw [Nat.zero_add] at c0
      have hki : (k : Int) < (l.length : Int) := by omega
      by_cases hy : y < n
      · have HL : Hid (∀ x ∈ l.take (k + 1), x < n) := HT.out hy
        clear HT hlo HAT tail X0
        go_wp2
        go_roundw
        case rel => exact ⟨k + 1, by omega, by go_num, HL.out, by simp⟩
        case measure => simp [intOf]; omega
      · by_cases hyn : y = n
        · subst hyn
          have HE : Hid (putL l y = l) := HAT.out.1 y X0.out rfl
          clear HT hlo HAT tail X0
          go_wp2
          go_ret
          exact ⟨_, rfl, by rw [HE.out]; exact ⟨g, cap, rfl, hcap, hgw, HR.out⟩, Below.refl _ _⟩
        · have HE := tail (fun x hx => by rw [X0.out] at hx; injection hx with hx; omega)
          have hyb : (y == n) = false := by simpa using hyn
          clear HT hlo HAT tail X0
          have hkl : (k : Int) ≤ (l.length : Int) := by omega
          have hk0 : (0 : Int) ≤ (k : Int) := by omega
          have hkc : (k : Int) ≤ (cap : Int) := by omega
          have HLT : Hid ((l.take k).length = k) := by show _ = _; rw [List.length_take]; omega
          have HLD : Hid ((l.drop k).length = l.length - k) := by show _ = _; rw [List.length_drop]
          have hO1 : (wr.alloc (.cells #[] 2)).ownsRow wr.heap.size 2 1 (.slice (some ⟨wr.heap.size, 0, none⟩) 0 0) 0 [] := World.ownsRow_made wr #[] 0 (Nat.le_refl _) (by decide) (by simp)
          have HO1 : Hid ((wr.alloc (.cells #[] 2)).ownsRow wr.heap.size 2 1 (.slice (some ⟨wr.heap.size, 0, none⟩) 0 0) 0 []) := hO1
          clear hO1
          go_wp2_with (at_builtin; refine wpList_append_own _ rfl _ _ 26 rfl wr.heap.size 2 i0 (.int .i64 0) 1 8 Try.underlying26 hif hz0 hz1 hz2 rfl (by decide) _ _ _ rfl HO1.out ⟨g, k, none⟩ (l.length - k) (cap - k) (nums (l.drop k)) rfl (by simp [nums]) (irow_nums (irow_drop (HR.out.on ((Below.refl _ _).alloc (Nat.le_refl _) _)))) (nums_one _) (by unfold maxLen; omega) (by omega) (by simp) ?_)
          intro v1 w1 hown1 hgrow1 hnil1
          have hb1 : Below wr.heap.size wr w1 := ((Below.refl _ _).alloc (Nat.le_refl _) _).grown hgrow1 (by simp) (fun q hq => by simp [Value.ownBlock] at hq; omega)
          have HG1 : Hid (Grow wr.heap.size w1 v1 (l.drop k)) := grow_app (a := []) hown1 (by simp) (fun h => by first | exact hnil1 h | exact absurd (hnil1.1 h).1 (by simp))
          clear hown1 hgrow1 hnil1 HO1
          obtain ⟨g1, c1, rfl⟩ := HG1.out.form
          have HI1 : Hid (IRow w1 g1 0 (l.drop k)) := by
            obtain ⟨_, _, hv, _, _, hi, _⟩ := HG1.out.gint
            injection hv with e1 e2 e3
            injection e1 with e1
            injection e1 with e1
            subst e1
            exact hi
          rw [HLD.out]
          have HR1 : Hid (IRow w1 g 0 l) := HR.out.on hb1
          have hO2 : (w1.alloc (.cells #[] 2)).ownsRow w1.heap.size 2 1 (.slice (some ⟨w1.heap.size, 0, none⟩) 0 0) 0 [] := World.ownsRow_made w1 #[] 0 (Nat.le_refl _) (by decide) (by simp)
          have HO2 : Hid ((w1.alloc (.cells #[] 2)).ownsRow w1.heap.size 2 1 (.slice (some ⟨w1.heap.size, 0, none⟩) 0 0) 0 []) := hO2
          clear hO2
          go_wp2_with (at_builtin; refine wpList_append_own _ rfl _ _ 26 rfl w1.heap.size 2 i0 (.int .i64 0) 1 8 Try.underlying26 hif hz0 hz1 hz2 rfl (by decide) _ _ _ rfl HO2.out ⟨g, 0, none⟩ k cap (nums (l.take k)) rfl (by simp [nums]; omega) (irow_nums (irow_take (HR1.out.on ((Below.refl _ _).alloc (Nat.le_refl _) _)))) (nums_one _) (by unfold maxLen; omega) (by omega) (by simp) ?_)
          intro v2 w2 hown2 hgrow2 hnil2
          have hb2 : Below w1.heap.size w1 w2 := ((Below.refl _ _).alloc (Nat.le_refl _) _).grown hgrow2 (by simp) (fun q hq => by simp [Value.ownBlock] at hq; omega)
          have HG2 : Hid (Grow w1.heap.size w2 v2 (l.take k)) := grow_app (a := []) hown2 (by simp; omega) (fun h => by first | exact hnil2 h | exact absurd (hnil2.1 h).1 (by simp))
          clear hown2 hgrow2 hnil2 HO2
          obtain ⟨g2, c2, rfl⟩ := HG2.out.form
          rw [HLT.out]
          have HX2 : Hid (w2.ownsRow w1.heap.size 2 1 (.slice (some ⟨g2, 0, none⟩) k c2) k (nums (l.take k))) := by have h := HG2.out.1; rw [HLT.out] at h; exact h
          have hz2' : w1.heap.size ≤ w2.heap.size := hb2.size
          go_wp2_with (at_builtin; refine wpList_append_own _ rfl _ _ 26 rfl w1.heap.size 2 i0 (.int .i64 0) 1 8 Try.underlying26 hif hz0 hz1 hz2 rfl (by decide) _ _ _ rfl (HX2.out.alloc _) ⟨w2.heap.size, 0, none⟩ 1 1 [.int .i64 n] rfl rfl (cell_one_new _ _ _) (by simp [Value.oneCell']) (by unfold maxLen; omega) (by omega) (by simp; omega) ?_)
          intro v3 w3 hown3 hgrow3 hnil3
          have hb3 : Below w1.heap.size w1 w3 := (hb2.alloc hb2.size _).grown hgrow3 (by simp; omega) (fun q hq => by simp [Value.ownBlock] at hq; subst hq; exact (HX2.out.lt g2 rfl).1)
          have HG3 : Hid (Grow w1.heap.size w3 v3 (l.take k ++ [n])) := grow_app (b := [n]) hown3 (by rw [List.length_append, HLT.out]; rfl) (fun h => by first | exact hnil3 h | exact absurd (hnil3.1 h).1 (by simp))
          clear hown3 hgrow3 hnil3 HG2 hb2 HX2
          obtain ⟨g3, c3, rfl⟩ := HG3.out.form
          have HL3 : Hid ((l.take k ++ [n]).length = k + 1) := by show _ = _; rw [List.length_append, HLT.out]; rfl
          rw [HL3.out]
          have HX3 : Hid (w3.ownsRow w1.heap.size 2 1 (.slice (some ⟨g3, 0, none⟩) (k + 1) c3) (k + 1) (nums (l.take k ++ [n]))) := by have h := HG3.out.1; rw [HL3.out] at h; exact h
          have hz3 : w1.heap.size ≤ w3.heap.size := hb3.size
          have HI3 : Hid (IRow w3 g1 0 (l.drop k)) := HI1.out.on hb3
          go_wp2_with (at_builtin; refine wpList_append_own _ rfl _ _ 26 rfl w1.heap.size 2 i0 (.int .i64 0) 1 8 Try.underlying26 hif hz0 hz1 hz2 rfl (by decide) _ _ _ rfl HX3.out ⟨g1, 0, none⟩ (l.length - k) c1 (nums (l.drop k)) rfl (by simp [nums]) (irow_nums HI3.out) (nums_one _) (by unfold maxLen; omega) (by omega) hz3 ?_)
          intro v4 w4 hown4 hgrow4 hnil4
          have hb4 : Below w1.heap.size w1 w4 := hb3.grown hgrow4 hz3 (fun q hq => by simp [Value.ownBlock] at hq; subst hq; exact (HX3.out.lt g3 rfl).1)
          have HG4 : Hid (Grow w1.heap.size w4 v4 ((l.take k ++ [n]) ++ l.drop k)) := grow_app hown4 (by rw [List.length_append, HLD.out, HL3.out]) (fun h => by first | exact hnil4 h | exact absurd (hnil4.1 h).1 (by simp))
          have HB4 : Hid (Below wr.heap.size wr w4) := below_over hb1 hb4
          clear hown4 hgrow4 hnil4 hb4 hb3 hb1
          go_wp2
          go_ret
          exact ⟨_, rfl, by rw [HE.out]; exact HG4.out.lst, HB4.out⟩
    · have HE := tail (fun x hx => by have := (List.getElem?_eq_some_iff.1 hx).1; omega)
      have hke : k = l.length := by omega
      subst hke
      rw [List.take_length, List.drop_length, List.append_nil] at HE
      clear hlo HAT tail
      have hkc : (l.length : Int) ≤ (cap : Int) := by omega
      rcases Nat.eq_or_lt_of_le hcap with hcc | hcc
      · subst hcc
        have HO1 : Hid ((wr.alloc (.cells #[] 2)).ownsRow wr.heap.size 2 1 (.slice (some ⟨wr.heap.size, 0, none⟩) 0 0) 0 []) := World.ownsRow_made wr #[] 0 (Nat.le_refl _) (by decide) (by simp)
        go_wp2_with (at_builtin; refine wpList_append_own _ rfl _ _ 26 rfl wr.heap.size 2 i0 (.int .i64 0) 1 8 Try.underlying26 hif hz0 hz1 hz2 rfl (by decide) _ _ _ rfl HO1.out _ 0 _ [] rfl rfl (by intro j u h; simp at h) (by simp) (by unfold maxLen; omega) (by omega) (by simp) ?_)
        intro v1 w1 hown1 hgrow1 hnil1
        have hb1 : Below wr.heap.size wr w1 := ((Below.refl _ _).alloc (Nat.le_refl _) _).grown hgrow1 (by simp) (fun q hq => by simp [Value.ownBlock] at hq; omega)
        have HG1 : Hid (Grow wr.heap.size w1 v1 []) := grow_app (a := []) (b := []) hown1 (by simp) (fun h => by first | exact hnil1 h | exact absurd (hnil1.1 h).1 (by simp))
        clear hown1 hgrow1 hnil1 HO1
        obtain ⟨g1, c1, rfl⟩ := HG1.out.form
        rw [List.length_nil]
        have HR1 : Hid (IRow w1 g 0 l) := HR.out.on hb1
        have HO2 : Hid ((w1.alloc (.cells #[] 2)).ownsRow w1.heap.size 2 1 (.slice (some ⟨w1.heap.size, 0, none⟩) 0 0) 0 []) := World.ownsRow_made w1 #[] 0 (Nat.le_refl _) (by decide) (by simp)
        go_wp2_with (at_builtin; refine wpList_append_own _ rfl _ _ 26 rfl w1.heap.size 2 i0 (.int .i64 0) 1 8 Try.underlying26 hif hz0 hz1 hz2 rfl (by decide) _ _ _ rfl HO2.out ⟨g, 0, none⟩ l.length _ (nums l) rfl (by simp [nums]) (irow_nums (HR1.out.on ((Below.refl _ _).alloc (Nat.le_refl _) _))) (nums_one _) (by unfold maxLen; omega) (by omega) (by simp) ?_)
        intro v2 w2 hown2 hgrow2 hnil2
        have hb2 : Below w1.heap.size w1 w2 := ((Below.refl _ _).alloc (Nat.le_refl _) _).grown hgrow2 (by simp) (fun q hq => by simp [Value.ownBlock] at hq; omega)
        have HG2 : Hid (Grow w1.heap.size w2 v2 l) := grow_app (a := []) hown2 (by simp) (fun h => by first | exact hnil2 h | exact absurd (hnil2.1 h).1 (by simp))
        clear hown2 hgrow2 hnil2 HO2
        obtain ⟨g2, c2, rfl⟩ := HG2.out.form
        have hz2' : w1.heap.size ≤ w2.heap.size := hb2.size
        go_wp2_with (at_builtin; refine wpList_append_own _ rfl _ _ 26 rfl w1.heap.size 2 i0 (.int .i64 0) 1 8 Try.underlying26 hif hz0 hz1 hz2 rfl (by decide) _ _ _ rfl (HG2.out.1.alloc _) ⟨w2.heap.size, 0, none⟩ 1 1 [.int .i64 n] rfl rfl (cell_one_new _ _ _) (by simp [Value.oneCell']) (by unfold maxLen; omega) (by omega) (by simp; omega) ?_)
        intro v3 w3 hown3 hgrow3 hnil3
        have hb3 : Below w1.heap.size w1 w3 := (hb2.alloc hb2.size _).grown hgrow3 (by simp; omega) (fun q hq => by simp [Value.ownBlock] at hq; subst hq; exact (HG2.out.1.lt g2 rfl).1)
        have HG3 : Hid (Grow w1.heap.size w3 v3 (l ++ [n])) := grow_next hown3 (fun h => by first | exact hnil3 h | exact absurd (hnil3.1 h).1 (by simp))
        clear hown3 hgrow3 hnil3 HG2 hb2
        obtain ⟨g3, c3, rfl⟩ := HG3.out.form
        have HL3 : Hid ((l ++ [n]).length = l.length + 1) := by show _ = _; rw [List.length_append]; rfl
        rw [HL3.out]
        have HX3 : Hid (w3.ownsRow w1.heap.size 2 1 (.slice (some ⟨g3, 0, none⟩) (l.length + 1) c3) (l.length + 1) (nums (l ++ [n]))) := by have h := HG3.out.1; rw [HL3.out] at h; exact h
        have hz3 : w1.heap.size ≤ w3.heap.size := hb3.size
        go_wp2_with (at_builtin; refine wpList_append_own _ rfl _ _ 26 rfl w1.heap.size 2 i0 (.int .i64 0) 1 8 Try.underlying26 hif hz0 hz1 hz2 rfl (by decide) _ _ _ rfl HX3.out ⟨g1, 0, none⟩ 0 c1 [] rfl rfl (by intro j u h; simp at h) (by simp) (by unfold maxLen; omega) (by omega) hz3 ?_)
        intro v4 w4 hown4 hgrow4 hnil4
        have hb4 : Below w1.heap.size w1 w4 := hb3.grown hgrow4 hz3 (fun q hq => by simp [Value.ownBlock] at hq; subst hq; exact (HX3.out.lt g3 rfl).1)
        have HG4 : Hid (Grow w1.heap.size w4 v4 (l ++ [n])) := ⟨by rw [HL3.out]; exact hown4, fun h => by first | exact hnil4 h | exact absurd (hnil4.1 h).1 (by simp)⟩
        have HB4 : Hid (Below wr.heap.size wr w4) := below_over hb1 hb4
        clear hown4 hgrow4 hnil4 hb4 hb3 hb1
        go_wp2
        go_ret
        exact ⟨_, rfl, by rw [HE.out]; exact HG4.out.lst, HB4.out⟩
      · have hcc1 : ¬ (cap - l.length = 0) := by omega
        have hcc2 : (l.length : Int) < (cap : Int) := by omega
        have hcc3 : cap ≠ l.length := by omega
        have HO1 : Hid ((wr.alloc (.cells #[] 2)).ownsRow wr.heap.size 2 1 (.slice (some ⟨wr.heap.size, 0, none⟩) 0 0) 0 []) := World.ownsRow_made wr #[] 0 (Nat.le_refl _) (by decide) (by simp)
        go_wp2_with (at_builtin; refine wpList_append_own _ rfl _ _ 26 rfl wr.heap.size 2 i0 (.int .i64 0) 1 8 Try.underlying26 hif hz0 hz1 hz2 rfl (by decide) _ _ _ rfl HO1.out _ 0 _ [] rfl rfl (by intro j u h; simp at h) (by simp) (by unfold maxLen; omega) (by omega) (by simp) ?_)
        intro v1 w1 hown1 hgrow1 hnil1
        have hb1 : Below wr.heap.size wr w1 := ((Below.refl _ _).alloc (Nat.le_refl _) _).grown hgrow1 (by simp) (fun q hq => by simp [Value.ownBlock] at hq; omega)
        have HG1 : Hid (Grow wr.heap.size w1 v1 []) := grow_app (a := []) (b := []) hown1 (by simp) (fun h => by first | exact hnil1 h | exact absurd (hnil1.1 h).1 (by simp))
        clear hown1 hgrow1 hnil1 HO1
        obtain ⟨g1, c1, rfl⟩ := HG1.out.form
        rw [List.length_nil]
        have HR1 : Hid (IRow w1 g 0 l) := HR.out.on hb1
        have HO2 : Hid ((w1.alloc (.cells #[] 2)).ownsRow w1.heap.size 2 1 (.slice (some ⟨w1.heap.size, 0, none⟩) 0 0) 0 []) := World.ownsRow_made w1 #[] 0 (Nat.le_refl _) (by decide) (by simp)
        go_wp2_with (at_builtin; refine wpList_append_own _ rfl _ _ 26 rfl w1.heap.size 2 i0 (.int .i64 0) 1 8 Try.underlying26 hif hz0 hz1 hz2 rfl (by decide) _ _ _ rfl HO2.out ⟨g, 0, none⟩ l.length _ (nums l) rfl (by simp [nums]) (irow_nums (HR1.out.on ((Below.refl _ _).alloc (Nat.le_refl _) _))) (nums_one _) (by unfold maxLen; omega) (by omega) (by simp) ?_)
        intro v2 w2 hown2 hgrow2 hnil2
        have hb2 : Below w1.heap.size w1 w2 := ((Below.refl _ _).alloc (Nat.le_refl _) _).grown hgrow2 (by simp) (fun q hq => by simp [Value.ownBlock] at hq; omega)
        have HG2 : Hid (Grow w1.heap.size w2 v2 l) := grow_app (a := []) hown2 (by simp) (fun h => by first | exact hnil2 h | exact absurd (hnil2.1 h).1 (by simp))
        clear hown2 hgrow2 hnil2 HO2
        obtain ⟨g2, c2, rfl⟩ := HG2.out.form
        have hz2' : w1.heap.size ≤ w2.heap.size := hb2.size
        go_wp2_with (at_builtin; refine wpList_append_own _ rfl _ _ 26 rfl w1.heap.size 2 i0 (.int .i64 0) 1 8 Try.underlying26 hif hz0 hz1 hz2 rfl (by decide) _ _ _ rfl (HG2.out.1.alloc _) ⟨w2.heap.size, 0, none⟩ 1 1 [.int .i64 n] rfl rfl (cell_one_new _ _ _) (by simp [Value.oneCell']) (by unfold maxLen; omega) (by omega) (by simp; omega) ?_)
        intro v3 w3 hown3 hgrow3 hnil3
        have hb3 : Below w1.heap.size w1 w3 := (hb2.alloc hb2.size _).grown hgrow3 (by simp; omega) (fun q hq => by simp [Value.ownBlock] at hq; subst hq; exact (HG2.out.1.lt g2 rfl).1)
        have HG3 : Hid (Grow w1.heap.size w3 v3 (l ++ [n])) := grow_next hown3 (fun h => by first | exact hnil3 h | exact absurd (hnil3.1 h).1 (by simp))
        clear hown3 hgrow3 hnil3 HG2 hb2
        obtain ⟨g3, c3, rfl⟩ := HG3.out.form
        have HL3 : Hid ((l ++ [n]).length = l.length + 1) := by show _ = _; rw [List.length_append]; rfl
        rw [HL3.out]
        have HX3 : Hid (w3.ownsRow w1.heap.size 2 1 (.slice (some ⟨g3, 0, none⟩) (l.length + 1) c3) (l.length + 1) (nums (l ++ [n]))) := by have h := HG3.out.1; rw [HL3.out] at h; exact h
        have hz3 : w1.heap.size ≤ w3.heap.size := hb3.size
        go_wp2_with (at_builtin; refine wpList_append_own _ rfl _ _ 26 rfl w1.heap.size 2 i0 (.int .i64 0) 1 8 Try.underlying26 hif hz0 hz1 hz2 rfl (by decide) _ _ _ rfl HX3.out ⟨g1, 0, none⟩ 0 c1 [] rfl rfl (by intro j u h; simp at h) (by simp) (by unfold maxLen; omega) (by omega) hz3 ?_)
        intro v4 w4 hown4 hgrow4 hnil4
        have hb4 : Below w1.heap.size w1 w4 := hb3.grown hgrow4 hz3 (fun q hq => by simp [Value.ownBlock] at hq; subst hq; exact (HX3.out.lt g3 rfl).1)
        have HG4 : Hid (Grow w1.heap.size w4 v4 (l ++ [n])) := ⟨by rw [HL3.out]; exact hown4, fun h => by first | exact hnil4 h | exact absurd (hnil4.1 h).1 (by simp)⟩
        have HB4 : Hid (Below wr.heap.size wr w4) := below_over hb1 hb4
        clear hown4 hgrow4 hnil4 hb4 hb3 hb1
        go_wp2
        go_ret
        exact ⟨_, rfl, by rw [HE.out]; exact HG4.out.lst, HB4.out⟩
theorem sels_fold_step (p : Prg) (nm : Int) {l : List Int} {k : Nat} (hk : k < l.length) : (selsL p nm (l.take (k + 1))).foldl putL [] = (if 0 ≤ selF p l[k] nm then putL ((selsL p nm (l.take k)).foldl putL []) (selF p l[k] nm) else (selsL p nm (l.take k)).foldl putL []) := by
  rw [List.take_succ_eq_append_getElem hk, selsL_snoc, List.foldl_append]
  split <;> rfl
set_option maxRecDepth 100000 in
set_option maxHeartbeats 2000000 in
theorem specTargets (B : Nat) (p : Prg) (a : Option Addr) (cap : Nat) (t nm : Int) (hsp : SmallP p) (w : World) (hp : SK front B w (.slice a p.length cap) p) :
    Calls Try.prog 26 #[.agg #[.slice a p.length cap], .int .i64 t, .int .i64 nm] w fun e w' => ∃ v, e = .returned v ∧ Lst w' v (targA p t nm) ∧ Below w.heap.size w w' := by
  have HSP : Hid (SmallP p) := hsp
  have HP : Hid (SK front B w (.slice a p.length cap) p) := hp
  clear hp hsp
  obtain ⟨W, hW⟩ : ∃ W, W = (w.alloc (.cells #[.slice a p.length cap] 30)).alloc (.cells #[] 2) := ⟨_, rfl⟩
  have hwW : Below w.heap.size w W := by rw [hW]; exact ((Below.refl _ _).alloc (Nat.le_refl _) _).alloc (by simp) _
  have P0 : Hid (Cells W w.heap.size [.slice a p.length cap]) := by rw [hW]; exact (Cells.new w _ rfl _ _).alloc _
  have L0 : Hid (Lst W (.slice (some ⟨w.heap.size + 1, 0, none⟩) 0 0) []) := by
    have h := (grow_start (w.alloc (.cells #[.slice a p.length cap] 30))).lst
    simp only [World.size_alloc] at h
    rw [hW]; exact h
  go_enter Try.func26, Try.ntmps26
  go_wp2_with fail
  rw [← hW]
  clear hW
  refine (l4In B p a cap t HSP.out _ (SK.on HP.out (Keep.of hwW))).mono ?_
  rintro e w1 ⟨rfl, hb1⟩
  have hw1 : Below w.heap.size w w1 := below_over hwW hb1
  have L1 : Hid (Lst w1 (.slice (some ⟨w.heap.size + 1, 0, none⟩) 0 0) []) := L0.out.on hb1
  have P1 : Hid (Cells w1 w.heap.size [.slice a p.length cap]) := P0.out.on hb1
  obtain ⟨q0, _⟩ := P1.out.g0
  clear hb1 P0 L0
  cases hok : (okP p && inB p t)
  · have HN : Hid (targA p t nm = []) := by show _ = _; unfold targA; rw [hok]; rfl
    go_wp2
    go_ret
    exact ⟨_, rfl, by rw [HN.out]; exact L1.out, hw1⟩
  · have HN : Hid (targA p t nm = targL p t nm) := by show _ = _; unfold targA; rw [hok]; rfl
    obtain ⟨hk, h0, h1⟩ := okIn hok
    have h6 := (okP_len hk).2
    have HSU : Hid (SupOk p p.length) := okP_sup hk
    clear hk hok
    go_wp2_with fail
    refine (l5Below B p a cap t h6 HSU.out _ (SK.on HP.out (Keep.of hw1))).mono ?_
    rintro e w2 ⟨vb, rfl, hg, hb2⟩
    obtain ⟨gb, cb, rfl, _, _, hib, _⟩ := hg.gint
    have hw2 : Below w.heap.size w w2 := below_over hw1 hb2
    have P2 : Hid (Cells w2 w.heap.size [.slice a p.length cap]) := P1.out.on hb2
    have L2 : Hid (Lst w2 (.slice (some ⟨w.heap.size + 1, 0, none⟩) 0 0) []) := L1.out.on hb2
    have HIB : Hid (IRow w2 gb 0 (downL p t)) := hib
    have hdl := downL_len p t h6
    have HBD : Hid (∀ x ∈ downL p t, 0 ≤ x ∧ x < (p.length : Int)) := fun x hx => by
      have h := (List.mem_filter.1 hx).1
      unfold allC at h
      obtain ⟨k, hk, rfl⟩ := List.mem_map.1 h
      have := List.mem_range.1 hk
      omega
    have HTE : Hid (targL p t nm = (selsL p nm (downL p t)).foldl putL []) := targL_eq p t nm
    generalize downL p t = D at *
    clear hb2 hg hib q0 P1 L1 hw1
    go_wp2
    go_loopw [7, 9] (fun y i wr => ∃ (k : Nat) (v0 : Value), k ≤ D.length ∧ i = .int .i64 (k : Int) ∧ v0 = y ∧ Hid (Lst wr v0 ((selsL p nm (D.take k)).foldl putL [])) ∧ Below w2.heap.size w2 wr) (fun _ i _ => D.length - (intOf i).toNat)
    case atStart => exact ⟨0, _, Nat.zero_le _, rfl, rfl, L2.out, Below.refl _ _⟩
    case round =>
      clear L2
      obtain ⟨k, v0, hk, rfl, rfl, hL, hb⟩ := hrel
      have hwr : Below w.heap.size w wr := below_over hw2 hb
      obtain ⟨g, c, hv, _⟩ := hL.out
      by_cases hlt : k < D.length
      · have hki : (k : Int) < (D.length : Int) := by omega
        have hk0 : (0 : Int) ≤ (k : Int) := by omega
        obtain ⟨p0, _⟩ := (P2.out.on hb).g0
        have c0 := (HIB.out.on hb) k _ (List.getElem?_eq_getElem hlt)
        rw [Nat.zero_add] at c0
        have HST : Hid ((selsL p nm (D.take (k + 1))).foldl putL [] = (if 0 ≤ selF p D[k] nm then putL ((selsL p nm (D.take k)).foldl putL []) (selF p D[k] nm) else (selsL p nm (D.take k)).foldl putL [])) := sels_fold_step p nm hlt
        have hbd := HBD.out D[k] (List.getElem_mem hlt)
        have hll : ((selsL p nm (D.take k)).foldl putL []).length ≤ 12 := by
          have h1 := foldl_put_len (selsL p nm (D.take k)) []
          have h2 := selsL_len p nm (D.take k)
          have h3 : (D.take k).length ≤ k := by rw [List.length_take]; omega
          simp at h1
          omega
        generalize D[k] = x at *
        obtain ⟨hx0, hx1⟩ := hbd
        have e0 := cell_regrown p0
        have e1 := cell_regrown c0
        have cS : ∀ d os, Calls Try.prog 41 #[.agg #[.slice a p.length cap], .int .i64 x, .int .i64 nm] (Sort.grow (redrawn wr d) os) fun e w'' => e = .returned (.int .i64 (selF p x nm)) ∧ ∃ p : Regrown, w'' = Sort.grow (redrawn wr p.d) p.os := by
          intro d os
          exact Calls.regrown_of (l5Selected B p a cap x nm (by omega) hx1 HSP.out h6 HSU.out _ (SK.on HP.out (Keep.of (below_over hwr (below_regrown wr d os)))))
        generalize (selsL p nm (D.take k)).foldl putL [] = L at *
        generalize selF p x nm = sx at *
        subst hv
        go_wp2_with fail
        refine wp_region_quiet_below (by kernel_rfl) (by kernel_rfl) ?_
        repeat (go_big_quiet_step ((go_at_call 41; exact cS _ _)))
        refine wpQuiet_nil ?_
        intro _ hw'
        obtain ⟨⟨dq, osq⟩, hw''⟩ := hw'
        subst hw''
        have hbq := below_regrown wr dq osq
        have hb3 : Below w2.heap.size w2 (Sort.grow (redrawn wr dq) osq) := below_over hb hbq
        have HL3 : Hid (Lst (Sort.grow (redrawn wr dq) osq) (.slice (some ⟨g, 0, none⟩) L.length c) L) := hL.out.on hbq
        clear hb hL hbq p0 c0 e0 e1 cS hwr
        generalize Sort.grow (redrawn wr dq) osq = w3 at *
        by_cases hs : 0 ≤ sx
        · rw [if_pos hs] at HST
          go_wp2_with fail
          refine (l1Put L _ sx hll _ HL3.out).mono ?_
          rintro e w4 ⟨v4, rfl, hl4, hb4⟩
          have hb5 : Below w2.heap.size w2 w4 := below_over hb3 hb4
          have HL4 : Hid (Lst w4 v4 ((selsL p nm (D.take (k + 1))).foldl putL [])) := by rw [HST.out]; exact hl4
          clear hl4 hb4 HL3 hb3
          go_wp2
          go_roundw
          case rel => exact ⟨k + 1, v4, by omega, by go_num, rfl, HL4.out, hb5⟩
          case measure => simp [intOf]; omega
        · rw [if_neg hs] at HST
          have HL4 : Hid (Lst w3 (.slice (some ⟨g, 0, none⟩) L.length c) ((selsL p nm (D.take (k + 1))).foldl putL [])) := by rw [HST.out]; exact HL3.out
          clear HL3
          go_wp2
          go_roundw
          case rel => exact ⟨k + 1, _, by omega, by go_num, rfl, HL4.out, hb3⟩
          case measure => simp [intOf]; omega
      · have hkk : D.take k = D := List.take_of_length_le (by omega)
        have HL4 : Hid (Lst wr v0 (targA p t nm)) := by
          rw [HN.out, HTE.out, ← hkk]; exact hL.out
        have hki : ¬ (k : Int) < (D.length : Int) := by omega
        clear hL hkk
        subst hv
        go_wp2
        go_ret
        exact ⟨_, rfl, HL4.out, hwr⟩
end Pg
end Go.Proofs.Ythjjfjakldbimab
