/- Facts on what is selected, and on the targets below a class. -/
import Derived.Test.YtmbbombjlijknaaJPcm
import Derived.Deep.RegionHeld3
import Derived.Test.YtmbbombjlijknaaJPg3
import Derived.Lib.QuietBelow
namespace Go.Proofs.Ytmbbombjlijknaa
namespace Pg
open Go.ChangeShapes Go.WideShapes Go.ChangeAt Go.RowKit St

theorem targ_rise (p : Prg) (c n : Int) : Rise (targA p c n) := by
  unfold targA
  split
  · rw [targL_eq]; exact (foldl_put _ [] (by simp)).1
  · simp
theorem targ_rises (p : Prg) (c n : Int) : ∀ k x y, (targA p c n)[k]? = some x → (targA p c n)[k + 1]? = some y → x < y := by
  intro k x y hx hy
  obtain ⟨h1, rfl⟩ := List.getElem?_eq_some_iff.1 hx
  obtain ⟨h2, rfl⟩ := List.getElem?_eq_some_iff.1 hy
  exact (List.pairwise_iff_getElem.1 (targ_rise p c n)) k (k + 1) h1 h2 (by omega)
theorem targL_memI (p : Prg) (c n x : Int) : x ∈ targL p c n ↔ 0 ≤ x ∧ ∃ i ∈ downL p c, selF p i n = x := by
  rw [targL_eq, (foldl_put _ [] (by simp)).2 x]
  simp only [selsL, List.not_mem_nil, or_false, List.mem_filter, List.mem_map, decide_eq_true_eq]
  constructor
  · rintro ⟨⟨i, hi, rfl⟩, h0⟩; exact ⟨h0, i, hi, rfl⟩
  · rintro ⟨h0, i, hi, rfl⟩; exact ⟨⟨i, hi, rfl⟩, h0⟩
theorem down_in {p : Prg} {c i : Int} (h : i ∈ downA p c) : (okP p = true ∧ 0 ≤ c ∧ c < (p.length : Int)) ∧ (0 ≤ i ∧ i < (p.length : Int)) ∧ c ∈ upL p i ∧ i ∈ downL p c := by
  unfold downA at h
  split at h
  · rename_i hok
    refine ⟨okIn hok, ?_, ?_, h⟩
    · obtain ⟨h1, _⟩ := List.mem_filter.1 h
      obtain ⟨k, hk, rfl⟩ := List.mem_map.1 h1
      have := List.mem_range.1 hk
      omega
    · have := (List.mem_filter.1 h).2
      simpa [undB] using this
  · simp at h
theorem sel_at {p : Prg} {i : Int} (n : Int) (h : okP p = true) (h0 : 0 ≤ i) (h1 : i < (p.length : Int)) : selA p i n = selF p i n := by
  unfold selA
  have : inB p i = true := by simp [inB]; omega
  rw [h, this]; rfl
/-- What one below selects is a target. -/
theorem sel_targ {p : Prg} {c n i : Int} (hi : i ∈ downA p c) (hx : ¬ selA p i n < 0) : selA p i n ∈ targA p c n := by
  obtain ⟨⟨hok, c0, c1⟩, ⟨i0, i1⟩, _, hd⟩ := down_in hi
  rw [sel_at n hok i0 i1] at hx ⊢
  have hc : inB p c = true := by simp [inB]; omega
  unfold targA
  rw [hok, hc]
  exact (targL_memI p c n _).2 ⟨by omega, i, hd, rfl⟩
theorem selF_yes {p : Prg} {c n x : Int} (hx : x ∈ upL p c) (hm : hasM p n x = true) : 0 ≤ selF p c n := by
  unfold selF
  cases h : (upL p c).find? (hasM p n) with
  | none => exact absurd hm (List.find?_eq_none.1 h x hx)
  | some y => exact (upL_mem (List.mem_of_find?_eq_some h)).1
theorem selF_in {p : Prg} {c n : Int} (h : ¬ selF p c n < 0) : selF p c n ∈ upL p c ∧ hasM p n (selF p c n) = true := by
  unfold selF at h ⊢
  cases hf : (upL p c).find? (hasM p n) with
  | none => rw [hf] at h; exact absurd (by decide) h
  | some y => exact ⟨List.mem_of_find?_eq_some hf, List.find?_some hf⟩
/-- Where a class selects, those below it do. -/
theorem sel_below {p : Prg} {c n i : Int} (hi : i ∈ downA p c) (hs : ¬ selA p c n < 0) : ¬ selA p i n < 0 := by
  obtain ⟨⟨hok, c0, c1⟩, ⟨i0, i1⟩, hu, _⟩ := down_in hi
  rw [sel_at n hok c0 c1] at hs
  rw [sel_at n hok i0 i1]
  obtain ⟨h1, h2⟩ := selF_in hs
  obtain ⟨k, rfl⟩ := Int.eq_ofNat_of_zero_le i0
  obtain ⟨pre, hp⟩ := upL_tail (okP_sup hok) (okP_len hok).2 (k + 1) k (by omega) (by omega) c hu
  have h3 : selF p c n ∈ upL p (k : Int) := by rw [hp]; exact List.mem_append_right _ h1
  have := selF_yes h3 h2
  omega
theorem sel_ok {p : Prg} {c n : Int} (hs : ¬ selA p c n < 0) : (okP p = true ∧ 0 ≤ c ∧ c < (p.length : Int)) ∧ selA p c n = selF p c n := by
  unfold selA at hs ⊢
  by_cases h : (okP p && inB p c) = true
  · rw [if_pos h]; exact ⟨okIn h, rfl⟩
  · rw [if_neg h] at hs; exact absurd (by decide) hs
theorem hasM_meth {p : Prg} {n x : Int} (hok : okP p = true) (h0 : 0 ≤ x) (h1 : x < (p.length : Int)) : (methF p x n).isSome = hasM p n x := by
  unfold methF hasM
  have : inB p x = true := by simp [inB]; omega
  rw [hok, this]
  simp only [Bool.and_self, if_true]
  cases p[x.toNat]? <;> rfl
/-- What is selected has a method of its own. -/
theorem sel_own {p : Prg} {c n : Int} (hs : ¬ selA p c n < 0) : (methF p (selA p c n) n).isSome = true := by
  obtain ⟨⟨hok, _, _⟩, e⟩ := sel_ok hs
  rw [e] at hs ⊢
  obtain ⟨h1, h2⟩ := selF_in hs
  have := upL_mem h1
  rw [hasM_meth hok this.1 this.2, h2]
theorem sel_up {p : Prg} {c n : Int} (hs : ¬ selA p c n < 0) : selA p c n ∈ upA p c := by
  obtain ⟨⟨hok, c0, c1⟩, e⟩ := sel_ok hs
  rw [e] at hs ⊢
  have hc : inB p c = true := by simp [inB]; omega
  unfold upA
  rw [hok, hc]
  exact (selF_in hs).1
theorem sel_self {p : Prg} {c n : Int} (hs : ¬ selA p c n < 0) : selA p c n ∈ targA p c n := by
  obtain ⟨⟨hok, c0, c1⟩, _⟩ := sel_ok hs
  refine sel_targ ?_ hs
  have hc : inB p c = true := by simp [inB]; omega
  obtain ⟨k, rfl⟩ := Int.eq_ofNat_of_zero_le c0
  unfold downA
  rw [hok, hc]
  have h1 := upL_self (okP_sup hok) (okP_len hok).2 (u := k) (by omega)
  exact List.mem_filter.2 ⟨List.mem_map.2 ⟨k, List.mem_range.2 (by omega), rfl⟩, by simpa [undB] using h1⟩
theorem find_ahead {f : Int → Bool} : ∀ (l : List Int) (s : Int), l.find? f = some s → ∀ k x, l[k]? = some x → s ∉ l.take k → x ≠ s → f x = false := by
  intro l
  induction l with
  | nil => intro s h; simp at h
  | cons y l ih =>
    intro s h k x hk hno hne
    rw [find_step] at h
    by_cases hy : f y = true
    · rw [if_pos hy] at h
      injection h with h
      subst h
      cases k with
      | zero => simp at hk; exact absurd hk.symm hne
      | succ k => simp at hno
    · rw [if_neg hy] at h
      cases k with
      | zero => simp at hk; subst hk; simpa using hy
      | succ k =>
        simp at hk
        exact ih s h k x hk (fun hm => hno (by simp [hm])) hne
/-- None of those ahead of what is selected has a method of its own. -/
theorem sel_first {p : Prg} {c n : Int} (hs : ¬ selA p c n < 0) {k : Nat} {x : Int} (hx : (upA p c)[k]? = some x) (hno : selA p c n ∉ (upA p c).take k) (hne : x ≠ selA p c n) : methF p x n = none := by
  obtain ⟨⟨hok, c0, c1⟩, e⟩ := sel_ok hs
  rw [e] at hs hno hne
  have hc : inB p c = true := by simp [inB]; omega
  have hu : upA p c = upL p c := by unfold upA; rw [hok, hc]; rfl
  rw [hu] at hx hno
  have hm := upL_mem (List.mem_of_getElem? hx)
  have hf : (upL p c).find? (hasM p n) = some (selF p c n) := by
    unfold selF at hs ⊢
    cases hf : (upL p c).find? (hasM p n) with
    | none => rw [hf] at hs; exact absurd (by decide) hs
    | some y => rfl
  have := find_ahead _ _ hf k x hx hno hne
  rw [← hasM_meth hok hm.1 hm.2] at this
  cases h : methF p x n with
  | none => rfl
  | some m => rw [h] at this; cases this
end Pg
end Go.Proofs.Ytmbbombjlijknaa

/- Contracts of both sides' MethodOf. -/
namespace Go.Proofs.Ytmbbombjlijknaa
namespace Pg
open Go.ChangeShapes Go.WideShapes Go.ChangeAt Go.RowKit St

/-- What holds while the method is copied: the answer's own variable may be written, the method's lies as it was. -/
def OwnAt (w : World) (k : Nat) (c0 c1 c2 c3 : Value) (x : World) : Prop := Below w.heap.size w x ∧ (∃ v0 v1 v2 v3, Cells x (w.heap.size + 1) [v0, v1, v2, v3]) ∧ Cells x k [c0, c1, c2, c3]
theorem OwnAt.all {w x : World} {k : Nat} {c0 c1 c2 c3 : Value} (h : OwnAt w k c0 c1 c2 c3 x) : OwnAt w k c0 c1 c2 c3 x ∧ x.cell? ⟨k, 0, none⟩ = some c0 ∧ x.cell? ⟨k, 1, none⟩ = some c1 ∧ x.cell? ⟨k, 2, none⟩ = some c2 ∧ x.cell? ⟨k, 3, none⟩ = some c3 :=
  ⟨h, h.2.2.g0.1, h.2.2.g1.1, h.2.2.g2.1, h.2.2.g3.1⟩
theorem OwnAt.drew {w x : World} {k : Nat} {c0 c1 c2 c3 : Value} (h : OwnAt w k c0 c1 c2 c3 x) : OwnAt w k c0 c1 c2 c3 x.drew :=
  have hd : Below x.heap.size x x.drew := (Below.refl _ _).drew
  ⟨h.1.drew, h.2.1.elim fun v0 h => h.elim fun v1 h => h.elim fun v2 h => h.elim fun v3 h => ⟨v0, v1, v2, v3, h.on hd⟩, h.2.2.on hd⟩
theorem OwnAt.on {w x x' : World} {k : Nat} {c0 c1 c2 c3 : Value} {R : Prop} (hb : Below x.heap.size x x') (hh : OwnAt w k c0 c1 c2 c3 x ∧ R) : OwnAt w k c0 c1 c2 c3 x' :=
  have h := hh.1
  ⟨below_over h.1 hb, h.2.1.elim fun v0 h => h.elim fun v1 h => h.elim fun v2 h => h.elim fun v3 h => ⟨v0, v1, v2, v3, h.on hb⟩, h.2.2.on hb⟩
theorem OwnAt.below {w x : World} {k : Nat} {c0 c1 c2 c3 : Value} {R : Prop} (h : OwnAt w k c0 c1 c2 c3 x ∧ R) : Below w.heap.size w x := h.1.1
theorem OwnAt.set {w x : World} {k : Nat} {c0 c1 c2 c3 n0 n1 n2 n3 : Value} {R : Prop} (hk : k ≠ w.heap.size + 1) (hh : OwnAt w k c0 c1 c2 c3 x ∧ R) : OwnAt w k c0 c1 c2 c3 ((((x.setCell ⟨w.heap.size + 1, 0, none⟩ n0).setCell ⟨w.heap.size + 1, 1, none⟩ n1).setCell ⟨w.heap.size + 1, 2, none⟩ n2).setCell ⟨w.heap.size + 1, 3, none⟩ n3) :=
  have h := hh.1
  ⟨(((h.1.setCell (p := ⟨w.heap.size + 1, 0, none⟩) (by simp) _).setCell (p := ⟨w.heap.size + 1, 1, none⟩) (by simp) _).setCell (p := ⟨w.heap.size + 1, 2, none⟩) (by simp) _).setCell (p := ⟨w.heap.size + 1, 3, none⟩) (by simp) _,
   h.2.1.elim fun v0 h => h.elim fun v1 h => h.elim fun v2 h => h.elim fun v3 h => ⟨n0, n1, n2, n3, (((h.s0 n0).s1 n1).s2 n2).s3 n3⟩,
   (((h.2.2.far ⟨w.heap.size + 1, 0, none⟩ n0 (Ne.symm hk)).far ⟨w.heap.size + 1, 1, none⟩ n1 (Ne.symm hk)).far ⟨w.heap.size + 1, 2, none⟩ n2 (Ne.symm hk)).far ⟨w.heap.size + 1, 3, none⟩ n3 (Ne.symm hk)⟩

set_option maxRecDepth 100000 in
set_option maxHeartbeats 4000000 in
theorem implMethodOf (B : Nat) (p : Prg) (a : Option Addr) (cap : Nat) (t name : Int) (hsp : SmallP p) (w : World) (hp : SK front B w (.slice a p.length cap) p) :
    Calls Try.prog 25 #[.agg #[.slice a p.length cap], .int .i64 t, .int .i64 name] w fun e w' => MPost p t name w e w' := by
  have HSP : Hid (SmallP p) := hsp
  have HP : Hid (SK front B w (.slice a p.length cap) p) := hp
  clear hp hsp
  obtain ⟨W, hW⟩ : ∃ W, W = (w.alloc (.cells #[.slice a p.length cap] 26)).alloc (.cells #[.int .i64 0, .slice none 0 0, .int .i64 0, .slice none 0 0] 41) := ⟨_, rfl⟩
  have hwW : Below w.heap.size w W := by rw [hW]; exact ((Below.refl _ _).alloc (Nat.le_refl _) _).alloc (by simp) _
  have P0 : Hid (Cells W w.heap.size [.slice a p.length cap]) := by rw [hW]; exact (Cells.new w _ rfl _ _).alloc _
  have R0 : Hid (Cells W (w.heap.size + 1) [.int .i64 0, .slice none 0 0, .int .i64 0, .slice none 0 0]) := by rw [hW]; exact Cells.new (w.alloc _) _ (by simp) _ _
  have HZ : Hid (∀ u, Below W.heap.size W u → methF p t name = none → MPost p t name w (.returned (.tuple #[.agg #[.int .i64 0, .slice none 0 0, .int .i64 0, .slice none 0 0], .bool false])) ((((u.setCell ⟨w.heap.size + 1, 0, none⟩ (.int .i64 0)).setCell ⟨w.heap.size + 1, 1, none⟩ (.slice none 0 0)).setCell ⟨w.heap.size + 1, 2, none⟩ (.int .i64 0)).setCell ⟨w.heap.size + 1, 3, none⟩ (.slice none 0 0))) := fun u hu hn =>
    ⟨.inr ⟨hn, rfl⟩, ((((below_over hwW hu).setCell (p := ⟨w.heap.size + 1, 0, none⟩) (by simp) _).setCell (p := ⟨w.heap.size + 1, 1, none⟩) (by simp) _).setCell (p := ⟨w.heap.size + 1, 2, none⟩) (by simp) _).setCell (p := ⟨w.heap.size + 1, 3, none⟩) (by simp) _⟩
  go_enter Try.func25, Try.ntmps25
  go_wp2_with fail
  rw [← hW]
  clear hW
  refine (isRightClass B p a cap t HSP.out _ (SK.on HP.out (Keep.of hwW))).mono ?_
  rintro e w2 ⟨rfl, hb1⟩
  have hW2 : Below W.heap.size W w2 := hb1
  clear hb1
  cases hok2 : (okP p && inB p t)
  · have HN : Hid (methF p t name = none) := methF_no hok2
    have RA := R0.out.on hW2
    obtain ⟨r0, q0⟩ := RA.g0
    obtain ⟨r1, q1⟩ := RA.g1
    obtain ⟨r2, q2⟩ := RA.g2
    obtain ⟨r3, q3⟩ := RA.g3
    have R5 := (((RA.s0 (.int .i64 0)).s1 (.slice none 0 0)).s2 (.int .i64 0)).s3 (.slice none 0 0)
    obtain ⟨e0, _⟩ := R5.g0
    obtain ⟨e1, _⟩ := R5.g1
    obtain ⟨e2, _⟩ := R5.g2
    obtain ⟨e3, _⟩ := R5.g3
    clear R5 RA hok2
    go_wp2
    refine bodyPost_ret (v := .tuple #[.agg #[.int .i64 0, .slice none 0 0, .int .i64 0, .slice none 0 0], .bool false]) (by simp [results, Try.results25, go_sem, e0, e1, e2, e3]) rfl ?_
    exact HZ.out _ hW2 HN.out
  · obtain ⟨hok, h0, h1⟩ := okIn hok2
    clear hok2
    obtain ⟨u, rfl⟩ := Int.eq_ofNat_of_zero_le h0
    have hup : u < p.length := by omega
    have hw2 : Below w.heap.size w w2 := below_over hwW hW2
    obtain ⟨b, o, rfl, _, vf, vm, d0, d1, d2, hcv⟩ := HP.out.get hup
    obtain ⟨z1, t1, rfl⟩ := hcv.1.form
    obtain ⟨z2, t2, rfl⟩ := hcv.2.form
    have l0 : b < w.heap.size := cell_lt d0
    have c0 := (hw2.cell l0).trans d0
    have c1 := (hw2.cell l0).trans d1
    have c2 := (hw2.cell l0).trans d2
    have HM : Hid (SM front B w (.slice z2 p[u].meths.length t2) p[u].meths) := hcv.2
    have hsc := HSP.out.2 _ (List.getElem_mem hup)
    have HSMM : Hid (∀ m ∈ p[u].meths, SmallM m) := hsc.2.2
    have hsl := hsc.2.1
    have HMF : Hid (methF p (u : Int) name = ownF p[u] name) := methF_at hok hup (List.getElem?_eq_getElem hup)
    generalize p[u] = c at *
    obtain ⟨pp, _⟩ := (P0.out.on hW2).g0
    clear hcv hsc d0 d1 d2 hok
    go_wp2_with fail
    refine (ownMethodR B c z1 z2 t2 c.fields.length t1 name hsl w _ hw2 HM.out).mono ?_
    rintro e w3 ⟨n, f1, l1, g1, gv, f2, l2, g2, q, rfl, hor, hb3⟩
    have hW3 : Below W.heap.size W w3 := below_over hW2 hb3
    clear hb3 c0 c1 c2 pp hW2 hw2
    obtain ⟨V, hV⟩ : ∃ V, V = w3.alloc (.cells #[.int .i64 n, .slice f1 l1 g1, .int .i64 gv, .slice f2 l2 g2] 41) := ⟨_, rfl⟩
    have hWV : Below W.heap.size W V := by rw [hV]; exact hW3.alloc hW3.size _
    have OV : Hid (Cells V w3.heap.size [.int .i64 n, .slice f1 l1 g1, .int .i64 gv, .slice f2 l2 g2]) := by rw [hV]; exact Cells.new w3 _ rfl _ _
    rcases hor.out with ⟨rfl, m, hox, rfl, rfl, rfl, rfl, hxv⟩ | ⟨rfl, hox⟩
    · have HMS : Hid (methF p (u : Int) name = some m) := by show _ = _; rw [HMF.out]; exact hox
      have hms := HSMM.out m (List.mem_of_find?_eq_some hox)
      have hms1 := hms.1
      have hms2 := hms.2
      have HXV : Hid (MV front B w (.slice f1 m.args.length g1) (.slice f2 m.code.length g2) m) := hxv
      have hwV : Below w.heap.size w V := below_over hwW hWV
      clear hor hox hxv hms HZ
      have KV : OwnAt w w3.heap.size (.int .i64 m.name) (.slice f1 m.args.length g1) (.int .i64 m.gives) (.slice f2 m.code.length g2) V := ⟨hwV, ⟨_, _, _, _, R0.out.on hWV⟩, OV.out⟩
      have hkn : w3.heap.size ≠ w.heap.size + 1 := by
        have h1 := cell_lt (R0.out.g0).1
        have h2 := hW3.size
        simp at h1
        omega
      have HKN : Hid (w3.heap.size ≠ w.heap.size + 1) := hkn
      have KD := KV.drew.all
      clear hkn
      go_wp2_with fail
      rw [← hV]
      clear hV OV hWV
      go_region_held3 (fun x => OwnAt w w3.heap.size (.int .i64 m.name) (.slice f1 m.args.length g1) (.int .i64 m.gives) (.slice f2 m.code.length g2) x ∧ x.cell? ⟨w3.heap.size, 0, none⟩ = some (.int .i64 m.name) ∧ x.cell? ⟨w3.heap.size, 1, none⟩ = some (.slice f1 m.args.length g1) ∧ x.cell? ⟨w3.heap.size, 2, none⟩ = some (.int .i64 m.gives) ∧ x.cell? ⟨w3.heap.size, 3, none⟩ = some (.slice f2 m.code.length g2))
        (first | exact KD | assumption | exact OwnAt.all (OwnAt.set HKN.out (by assumption)))
        (first
          | (go_at_call 55; refine (cloneInts B f1 g1 m.args hms1 _ ?hx).mono ?_; (case hx => exact SI.on HXV.out.1 (Keep.of (OwnAt.below (by assumption)))); rintro e wA ⟨v4, rfl, hv4, hbA⟩; obtain ⟨a4, c4, rfl⟩ := hv4.form; have KA := OwnAt.all (OwnAt.on hbA (by assumption)); obtain ⟨s0, s1, s2, s3, RX⟩ := KA.1.2.1; obtain ⟨r0, q0⟩ := RX.g0; obtain ⟨r1, q1⟩ := RX.g1; obtain ⟨r2, q2⟩ := RX.g2; obtain ⟨r3, q3⟩ := RX.g3)
          | (go_at_call 56; refine (cloneCode B _ m.code hms2 _ ?hx).mono ?_; (case hx => exact front.on HXV.out.2 (Keep.of (OwnAt.below (by assumption)))); rintro e wB ⟨v5, rfl, hv5, hbB⟩; obtain ⟨a5, c5, rfl⟩ := front.form hv5; have KB := OwnAt.all (OwnAt.on hbB (by assumption)); obtain ⟨s0, s1, s2, s3, RX⟩ := KB.1.2.1; obtain ⟨r0, q0⟩ := RX.g0; obtain ⟨r1, q1⟩ := RX.g1; obtain ⟨r2, q2⟩ := RX.g2; obtain ⟨r3, q3⟩ := RX.g3))
      have R5 := (((RX.s0 (.int .i64 m.name)).s1 (.slice a4 m.args.length c4)).s2 (.int .i64 m.gives)).s3 (.slice a5 m.code.length c5)
      obtain ⟨e0, _⟩ := R5.g0
      obtain ⟨e1, _⟩ := R5.g1
      obtain ⟨e2, _⟩ := R5.g2
      obtain ⟨e3, _⟩ := R5.g3
      have hsV : w.heap.size + 2 ≤ V.drew.heap.size := by
        obtain ⟨_, _, _, _, h0⟩ := KD.1.2.1
        have h1 := cell_lt h0.g0.1
        simp at h1 ⊢
        omega
      have hsA : w.heap.size + 2 ≤ wA.heap.size := Nat.le_trans hsV hbA.size
      have hk : ∀ (x : World) (i : Nat) (v : Value), Keep (w.heap.size + 2) x (x.setCell ⟨w.heap.size + 1, i, none⟩ v) := fun x i v => Keep.set x (p := ⟨w.heap.size + 1, i, none⟩) (by simp) v
      have hkk := (((hk wB 0 (.int .i64 m.name)).trans (hk _ 1 (.slice a4 m.args.length c4))).trans (hk _ 2 (.int .i64 m.gives))).trans (hk _ 3 (.slice a5 m.code.length c5))
      have HMVF : Hid (AnsM w.heap.size ((((wB.setCell ⟨w.heap.size + 1, 0, none⟩ (.int .i64 m.name)).setCell ⟨w.heap.size + 1, 1, none⟩ (.slice a4 m.args.length c4)).setCell ⟨w.heap.size + 1, 2, none⟩ (.int .i64 m.gives)).setCell ⟨w.heap.size + 1, 3, none⟩ (.slice a5 m.code.length c5)) (.slice a4 m.args.length c4) (.slice a5 m.code.length c5) m) :=
        ⟨wA.heap.size, by omega, by have := hkk.size; have := hbB.size; omega, ((hv4.on hbB).keep hkk hsV).weak (by omega) (Nat.le_refl _), ((CZ.of hv5).keep hkk hsA).weak (Nat.le_refl _) hkk.size⟩
      have HBF : Hid (Below w.heap.size w ((((wB.setCell ⟨w.heap.size + 1, 0, none⟩ (.int .i64 m.name)).setCell ⟨w.heap.size + 1, 1, none⟩ (.slice a4 m.args.length c4)).setCell ⟨w.heap.size + 1, 2, none⟩ (.int .i64 m.gives)).setCell ⟨w.heap.size + 1, 3, none⟩ (.slice a5 m.code.length c5))) := (OwnAt.set (k := w3.heap.size) HKN.out KB).1
      clear hkk hk hv4 hv5 hbA hbB R5 RX KA KB KD KV hsV hsA
      go_wp2
      refine bodyPost_ret (v := .tuple #[.agg #[.int .i64 m.name, .slice a4 m.args.length c4, .int .i64 m.gives, .slice a5 m.code.length c5], .bool true]) (by simp [results, Try.results25, go_sem, e0, e1, e2, e3]) rfl ?_
      exact ⟨.inl ⟨m, a4, c4, a5, c5, HMS.out, rfl, HMVF.out⟩, HBF.out⟩
    · have HN : Hid (methF p (u : Int) name = none) := by show _ = _; rw [HMF.out]; exact hox
      have RA := R0.out.on hWV
      obtain ⟨r0, q0⟩ := RA.g0
      obtain ⟨r1, q1⟩ := RA.g1
      obtain ⟨r2, q2⟩ := RA.g2
      obtain ⟨r3, q3⟩ := RA.g3
      have R5 := (((RA.s0 (.int .i64 0)).s1 (.slice none 0 0)).s2 (.int .i64 0)).s3 (.slice none 0 0)
      obtain ⟨e0, _⟩ := R5.g0
      obtain ⟨e1, _⟩ := R5.g1
      obtain ⟨e2, _⟩ := R5.g2
      obtain ⟨e3, _⟩ := R5.g3
      have HF := HZ.out V hWV HN.out
      have HFH : Hid (MPost p (u : Int) name w (.returned (.tuple #[.agg #[.int .i64 0, .slice none 0 0, .int .i64 0, .slice none 0 0], .bool false])) ((((V.setCell ⟨w.heap.size + 1, 0, none⟩ (.int .i64 0)).setCell ⟨w.heap.size + 1, 1, none⟩ (.slice none 0 0)).setCell ⟨w.heap.size + 1, 2, none⟩ (.int .i64 0)).setCell ⟨w.heap.size + 1, 3, none⟩ (.slice none 0 0))) := HF
      rw [hV] at r0 r1 r2 r3 q0 q1 q2 q3 e0 e1 e2 e3 HFH
      clear R5 RA hor hox HF HZ hV OV hWV
      go_wp2
      refine bodyPost_ret (v := .tuple #[.agg #[.int .i64 0, .slice none 0 0, .int .i64 0, .slice none 0 0], .bool false]) (by simp [results, Try.results25, go_sem, e0, e1, e2, e3]) rfl ?_
      exact HFH.out
end Pg
end Go.Proofs.Ytmbbombjlijknaa

/- The laws' own has and rises over rows of numbers. -/
namespace Go.Proofs.Ytmbbombjlijknaa
namespace St
open Go.ChangeShapes Go.WideShapes Go.ChangeAt Go.RowKit

set_option maxHeartbeats 800000 in
theorem risesYes (g cap : Nat) (l : List Int) (hl : l.length ≤ 1048576) (hup : ∀ k x y, l[k]? = some x → l[k + 1]? = some y → x < y) (w : World) (h1 : IRow w g 0 l) :
    Calls Try.prog 18 #[.slice (some ⟨g, 0, none⟩) l.length cap] w fun e w' => e = .returned (.bool true) ∧ Below w.heap.size w w' := by
  have H1 : Hid (IRow w g 0 l) := h1
  have HU : Hid (∀ k x y, l[k]? = some x → l[k + 1]? = some y → x < y) := hup
  clear h1 hup
  go_enter Try.func18, Try.ntmps18
  go_wp2
  go_loopw [3] (fun i wr => ∃ k : Nat, i = .int .i64 ((k : Int) + 1) ∧ k ≤ l.length ∧ Below w.heap.size w wr) (fun i _ => l.length + 1 - (intOf i).toNat)
  case atStart => exact ⟨0, rfl, Nat.zero_le _, Below.refl _ _⟩
  case round =>
    obtain ⟨k, rfl, hk, hb⟩ := hrel
    by_cases hlt : k + 1 < l.length
    · have a0 := H1.out.on hb (k + 1) _ (List.getElem?_eq_getElem hlt)
      have b0 := H1.out.on hb k _ (List.getElem?_eq_getElem (show k < l.length by omega))
      have hxy : l[k] < l[k + 1] := HU.out k _ _ (List.getElem?_eq_getElem (show k < l.length by omega)) (List.getElem?_eq_getElem hlt)
      generalize l[k + 1] = x at *
      generalize l[k] = y at *
      simp only [Nat.zero_add] at a0 b0
      have hki : (k : Int) + 1 < (l.length : Int) := by omega
      have hki0 : (0 : Int) ≤ (k : Int) + 1 := by omega
      have hwr : IntKind.i64.wrap (k : Int) = (k : Int) := by simp [IntKind.wrap, IntKind.signed, IntKind.bits]; omega
      have htn : ((k : Int) + 1).toNat = k + 1 := by omega
      have hkk : (k : Int) < (l.length : Int) := by omega
      have r0 := cell_regrown a0
      have s0 := cell_regrown b0
      have hnle : ¬ x ≤ y := by omega
      go_wp2_with fail
      refine wp_region_quiet_below (by kernel_rfl) (by kernel_rfl) ?_
      repeat (quiet_step (fail))
      refine wpQuiet_nil ?_
      intro _ hw'
      obtain ⟨⟨dq, osq⟩, hw''⟩ := hw'
      subst hw''
      have hw1 : Below w.heap.size w (Sort.grow (redrawn wr dq) osq) := below_over hb (below_regrown wr dq osq)
      clear a0 b0 r0 s0 hb
      generalize Sort.grow (redrawn wr dq) osq = w1 at *
      go_wp2
      go_roundw
      case rel => exact ⟨k + 1, by go_num, by omega, hw1⟩
      case measure => simp [intOf]; omega
    · go_wp2
      go_ret
      exact ⟨rfl, hb⟩

set_option maxHeartbeats 800000 in
theorem hasAt (g cap : Nat) (l : List Int) (n : Int) (hl : l.length ≤ 1048576) (w : World) (h1 : IRow w g 0 l) :
    Calls Try.prog 19 #[.slice (some ⟨g, 0, none⟩) l.length cap, .int .i64 n] w fun e w' => e = .returned (.bool (decide (n ∈ l))) ∧ Below w.heap.size w w' := by
  have H1 : Hid (IRow w g 0 l) := h1
  clear h1
  go_enter Try.func19, Try.ntmps19
  go_wp2
  go_loopw [5] (fun i wr => ∃ k : Nat, i = .int .i64 (k : Int) ∧ k ≤ l.length ∧ Hid (n ∉ l.take k) ∧ Below w.heap.size w wr) (fun i _ => l.length + 1 - (intOf i).toNat)
  case atStart => exact ⟨0, rfl, Nat.zero_le _, fun h => by simp at h, Below.refl _ _⟩
  case round =>
    obtain ⟨k, rfl, hk, hno, hb⟩ := hrel
    by_cases hlt : k < l.length
    · have a0 := H1.out.on hb k _ (List.getElem?_eq_getElem hlt)
      have HT : Hid (l.take (k + 1) = l.take k ++ [l[k]]) := by show _ = _; rw [List.take_add_one, List.getElem?_eq_getElem hlt]; rfl
      have HM : Hid (l[k] ∈ l) := List.getElem_mem hlt
      generalize l[k] = x at *
      simp only [Nat.zero_add] at a0
      have hki : (k : Int) < (l.length : Int) := by omega
      have hki0 : (0 : Int) ≤ (k : Int) := by omega
      by_cases hx : x = n
      · have HD : Hid (decide (n ∈ l) = true) := by show _ = _; rw [← hx]; exact decide_eq_true HM.out
        subst hx
        clear HM HT hno
        go_wp2
        go_ret
        exact ⟨by rw [HD.out]; rfl, hb⟩
      · have hxb : (x == n) = false := by simpa using hx
        have HN : Hid (n ∉ l.take (k + 1)) := by
          intro h
          rw [HT.out] at h
          rcases List.mem_append.1 h with h | h
          · exact hno.out h
          · simp at h; exact hx h.symm
        clear HM HT hno
        go_wp2
        go_roundw
        case rel => exact ⟨k + 1, by go_num, by omega, HN.out, hb⟩
        case measure => simp [intOf]; omega
    · have hk' : k = l.length := by omega
      have HD : Hid (decide (n ∈ l) = false) := by
        show _ = _
        have := hno.out
        rw [hk', List.take_length] at this
        exact decide_eq_false this
      have hki : ¬ (k : Int) < (l.length : Int) := by omega
      clear hno hk'
      go_wp2
      go_ret
      exact ⟨by rw [HD.out]; rfl, hb⟩
end St
end Go.Proofs.Ytmbbombjlijknaa
