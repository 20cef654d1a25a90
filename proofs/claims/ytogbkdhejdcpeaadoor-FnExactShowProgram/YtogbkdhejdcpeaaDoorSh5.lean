/- What a program is shown as; appends onto a list of texts of one's own. -/
import Derived.Test.YtogbkdhejdcpeaaDoorSh4
import Derived.Test.YtogbkdhejdcpeaaDoorPi3
namespace Go.Proofs.YtogbkdhejdcpeaaDoor
namespace Pg
open Go.ChangeShapes Go.WideShapes Go.ChangeAt Go.RowKit St

def linesL (c : Cls) (k : Nat) : List (List UInt8) := numsT (headL c c.meths.length) :: (c.meths.take k).map fun m => Tx.showC m.code
def linesP (p : Prg) : List (List UInt8) := p.flatMap fun c => linesL c c.meths.length
def progT (p : Prg) : List UInt8 := textL (linesP p)
def shownP (p : Prg) : List UInt8 := if okP p then progT p else []
theorem linesL_step {c : Cls} {k : Nat} (hk : k < c.meths.length) : linesL c (k + 1) = linesL c k ++ [Tx.showC c.meths[k].code] := by
  unfold linesL
  rw [List.take_succ_eq_append_getElem hk, List.map_append]
  simp
theorem linesP_step {p : Prg} {i : Nat} (hi : i < p.length) : linesP (p.take (i + 1)) = linesP (p.take i) ++ linesL p[i] p[i].meths.length := by
  unfold linesP
  rw [List.take_succ_eq_append_getElem hi, List.flatMap_append]
  simp
theorem ty_bd {n t : Int} (h : tyB n t = true) (hn : n ≤ 6) : -1 ≤ t ∧ t ≤ 1000 := by
  simp only [tyB, Bool.or_eq_true, Bool.and_eq_true, decide_eq_true_eq] at h
  omega
theorem few_of {p : Prg} (h : okP p = true) {i : Nat} (hi : i < p.length) : FewC p[i] := by
  have hl := (okP_len h).2
  have hc : okCB p i p[i] = true := by rw [← okAt_of (List.getElem?_eq_getElem hi)]; exact okP_at h hi
  have hs := okC_super hc
  have hf := okC_few hc
  have hm : ∀ m ∈ p[i].meths, okMB p.length m = true := by
    intro m hm
    obtain ⟨k, hk, rfl⟩ := List.getElem_of_mem hm
    have := okC_meth hc hk
    unfold okK at this
    rw [List.getElem?_eq_getElem hk] at this
    simp only [Bool.and_eq_true] at this
    exact this.1.1
  have hty : p[i].fields.all (tyB p.length) = true := by
    unfold okCB at hc
    simp only [Bool.and_eq_true] at hc
    exact hc.1.1.2
  refine ⟨by omega, hf.1, fun x hx => ty_bd (List.all_eq_true.1 hty x hx) (by omega), hf.2, fun m hmm => ?_, fun m hmm => ?_⟩
  · have := hm m hmm
    simp only [okMB, Bool.and_eq_true, decide_eq_true_eq] at this
    exact this.1.1.1.2
  · have := hm m hmm
    simp only [okMB, Bool.and_eq_true, decide_eq_true_eq] at this
    obtain ⟨⟨⟨⟨⟨h1, h2⟩, _⟩, h3⟩, h4⟩, h5⟩ := this
    exact ⟨⟨h1, by omega⟩, fun x hx => ty_bd (List.all_eq_true.1 h3 x hx) (by omega), ty_bd h4 (by omega), h5⟩
theorem code_okC {l : List Tx.Ins} (h : Lay.codeOk l = true) : Tx.okC l = true := by
  unfold Lay.codeOk at h
  simp only [Bool.and_eq_true] at h
  exact h.1.2
theorem okC_len {l : List Tx.Ins} (h : Tx.okC l = true) : l.length ≤ 40 ∧ (Tx.showC l).length ≤ 1000 := by
  have h' := h
  unfold Tx.okC at h'
  simp only [Bool.and_eq_true, decide_eq_true_eq] at h'
  have := showC_len l h'.2
  omega
theorem okC_bd {l : List Tx.Ins} (h : Tx.okC l = true) : ∀ x ∈ l, (-9223372036854775808 ≤ x.2.1 ∧ x.2.1 ≤ 9223372036854775807) ∧ -9223372036854775808 ≤ x.2.2 ∧ x.2.2 ≤ 9223372036854775807 := by
  intro x hx
  unfold Tx.okC at h
  simp only [Bool.and_eq_true] at h
  have h1 := List.all_eq_true.1 h.2 x hx
  have ha := Tx.ok_a h1
  have hb := Tx.ok_b h1
  omega
theorem FewC.head {c : Cls} (h : FewC c) : (headL c c.meths.length).length ≤ 35 ∧ 0 < (headL c c.meths.length).length ∧ (∀ x ∈ headL c c.meths.length, -2147483648 ≤ x ∧ x ≤ 2147483647) ∧ (numsT (headL c c.meths.length)).length ≤ 1000 := by
  have h1 := headL_len h.flen h.args c.meths.length (Nat.le_refl _)
  have h2 := h.nums (fun m hm => by have := (okC_len (code_okC (h.ok m hm).2.2.2)).1; omega) c.meths.length
  have hml := h.mlen
  have h3 := numsT_len (headL c c.meths.length).length (headL c c.meths.length) h2 (Nat.le_refl _)
  rw [List.take_of_length_le (Nat.le_refl _)] at h3
  refine ⟨by omega, by simp [headL], h2, by omega⟩
theorem linesL_small {c : Cls} (h : FewC c) (k : Nat) : ∀ x ∈ linesL c k, x.length ≤ 1000 := by
  intro x hx
  simp only [linesL, List.mem_cons, List.mem_map] at hx
  rcases hx with rfl | ⟨m, hm, rfl⟩
  · exact h.head.2.2.2
  · exact (okC_len (code_okC (h.ok m (List.mem_of_mem_take hm)).2.2.2)).2
theorem linesL_len {c : Cls} (k : Nat) : (linesL c k).length ≤ k + 1 := by
  simp only [linesL, List.length_cons, List.length_map, List.length_take]; omega
theorem linesP_small {p : Prg} (h : okP p = true) : ∀ x ∈ linesP p, x.length ≤ 1000 := by
  intro x hx
  unfold linesP at hx
  obtain ⟨c, hc, hx⟩ := List.mem_flatMap.1 hx
  obtain ⟨i, hi, rfl⟩ := List.getElem_of_mem hc
  exact linesL_small (few_of h hi) _ x hx
theorem linesP_len {p : Prg} (h : okP p = true) : ∀ i, i ≤ p.length → (linesP (p.take i)).length ≤ 5 * i := by
  intro i
  induction i with
  | zero => intro _; simp [linesP]
  | succ i ih =>
    intro hi
    rw [linesP_step (by omega), List.length_append]
    have h1 := ih (by omega)
    have h2 := linesL_len (c := p[i]) p[i].meths.length
    have h3 := (few_of h (show i < p.length by omega)).mlen
    omega
theorem linesP_pos {p : Prg} (h : 1 ≤ p.length) : 1 ≤ (linesP p).length := by
  cases p with
  | nil => simp at h
  | cons c p => simp [linesP, linesL]

/-- A list of texts of one's own. -/
def GrowS (B : Nat) (w : World) (v : Value) (ls : List (List UInt8)) : Prop := w.ownsRow B 9 1 v ls.length (strs ls)
structure KeptS (B : Nat) (W W' : World) : Prop where
  below : Below B W W'
  box : ∀ b t vs, t ≠ 9 → BoxT W b t vs → BoxT W' b t vs
theorem KeptS.of {B : Nat} {W W' : World} (h : Below W.heap.size W W') (hB : B ≤ W.heap.size) : KeptS B W W' := ⟨h.mono hB, fun _ _ _ _ h1 => h1.on h⟩
theorem KeptS.refl (B : Nat) (W : World) : KeptS B W W := ⟨Below.refl _ _, fun _ _ _ _ h => h⟩
theorem KeptS.trans {B : Nat} {W W' W'' : World} (h : KeptS B W W') (h' : KeptS B W' W'') : KeptS B W W'' := ⟨h.below.trans h'.below, fun b t vs ht hb => h'.box b t vs ht (h.box b t vs ht hb)⟩
theorem KeptS.over {B : Nat} {W W' W'' : World} (h : KeptS B W W') (hB : B ≤ W.heap.size) (hb : Below W'.heap.size W' W'') : KeptS B W W'' := h.trans (KeptS.of hb (Nat.le_trans hB h.below.size))
theorem GrowS.on {B : Nat} {u v : World} {x : Value} {l : List (List UInt8)} (h : GrowS B u x l) (hb : Below u.heap.size u v) : GrowS B v x l := ownOn h hb
theorem GrowS.nil (B : Nat) (w : World) : GrowS B w (.slice none 0 0) [] := World.ownsRow_nil _ _ _ _
theorem strs_snoc (l : List (List UInt8)) (t : List UInt8) : strs (l ++ [t]) = strs l ++ [.string ⟨t.toArray⟩] := by simp [St.strs]
theorem wpList_growS {X : World} {ops : Array Oper} {rest : List Oper} {o : Oper} {a : Act} {Q : Exit → Act → World → Prop} (hgd : o.guard = none) (s x : Operand)
    (ho : o.op = .call { callee := .builtin .append, args := #[s, x], argTypes := #[46, 46] })
    (B : Nat) (v : Value) (ls : List (List UInt8)) (hs : a.eval s = v) (hg : GrowS B X v ls) (hB : B ≤ X.heap.size)
    (t : List UInt8) (hx : a.eval x = .slice (some ⟨X.heap.size, 0, none⟩) 1 1) (hlen : ls.length ≤ 1000)
    (h : ∀ v' w', GrowS B w' v' (ls ++ [t]) → KeptS B X w' → wpList Tryd.prog ops Q rest (a.put o.dst v') w') : wpList Tryd.prog ops Q (o :: rest) a (X.alloc (.cells #[.string ⟨t.toArray⟩] 9)) := by
  obtain ⟨i0, hi, hz0, hz1, hz2⟩ := info_parts infoS
  have hg' : (X.alloc (.cells #[.string ⟨t.toArray⟩] 9)).ownsRow B 9 1 v ls.length (strs ls) := hg.alloc _
  refine wpList_append_own _ hgd s x 46 ho B 9 i0 (.string ByteArray.empty) 1 16 Tryd.underlying46 hi hz0 hz1 hz2 rfl (by decide) v ls.length (strs ls) hs hg' ⟨X.heap.size, 0, none⟩ 1 1 [.string ⟨t.toArray⟩] hx rfl ?c1 ?c2 (by unfold maxLen; omega) (by omega) (by simp; omega) ?_
  case c1 =>
    intro j u hj
    match j, hj with
    | 0, hj => simp at hj; subst hj; simp [Addr.add]
  case c2 => intro u hu; simp at hu; subst hu; rfl
  intro v' w' hown hgrow _
  refine h v' w' ?_ ⟨?_, ?_⟩
  · show w'.ownsRow _ _ _ _ _ _
    rw [List.length_append, strs_snoc]
    exact hown
  · exact (((Below.refl _ _).alloc hB _).grown hgrow (by simp; omega) (fun g hg2 => (hg'.lt g hg2).1))
  · intro b t' vs ht hb
    exact (hb.on (allocBelow _ _)).kept hgrow ((hb.on (allocBelow _ _)).not_row ht hg')
end Pg
end Go.Proofs.YtogbkdhejdcpeaaDoor
