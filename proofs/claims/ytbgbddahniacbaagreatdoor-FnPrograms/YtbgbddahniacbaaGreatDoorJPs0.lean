/- What a program is shown as; appends onto a list of texts of one's own. -/
import Derived.Test.YtbgbddahniacbaaGreatDoorJLo0
import Derived.Test.YtbgbddahniacbaaGreatDoorJPi3
import Derived.Test.YtbgbddahniacbaaGreatDoorJPg5
import Derived.Test.YtbgbddahniacbaaGreatDoorJPi0
namespace Go.Proofs.YtbgbddahniacbaaGreatDoor
namespace Pg
open Go.ChangeShapes Go.WideShapes Go.ChangeAt Go.RowKit St

def linesL (c : Cls) (k : Nat) : List (List UInt8) := numsT (headL c c.meths.length) :: (c.meths.take k).map fun m => Tx.showC m.code
def linesP (p : Prg) : List (List UInt8) := p.flatMap fun c => linesL c c.meths.length
def progT (p : Prg) : List UInt8 := textL (linesP p)
def shownP (p : Prg) : List UInt8 := if okP p then progT p else []
theorem linesL_step {c : Cls} {k : Nat} (hk : k < c.meths.length) : linesL c (k + 1) = linesL c k ++ [Tx.showC c.meths[k].code] := by
  unfold linesL
  rw [List.take_succ_eq_append_getElem hk, List.map_append]
  simp
theorem linesP_step {p : Prg} {i : Nat} (hi : i < p.length) : linesP (p.take (i + 1)) = linesP (p.take i) ++ linesL p[i] p[i].meths.length := by
  unfold linesP
  rw [List.take_succ_eq_append_getElem hi, List.flatMap_append]
  simp
theorem ty_bd {n t : Int} (h : tyB n t = true) (hn : n ≤ 6) : -1 ≤ t ∧ t ≤ 1000 := by
  simp only [tyB, Bool.or_eq_true, Bool.and_eq_true, decide_eq_true_eq] at h
  omega
theorem few_of {p : Prg} (h : okP p = true) {i : Nat} (hi : i < p.length) : FewC p[i] := by
  have hl := (okP_len h).2
  have hc : okCB p i p[i] = true := by rw [← okAt_of (List.getElem?_eq_getElem hi)]; exact okP_at h hi
  have hs := okC_super hc
  have hf := okC_few hc
  have hm : ∀ m ∈ p[i].meths, okMB p.length m = true := by
    intro m hm
    obtain ⟨k, hk, rfl⟩ := List.getElem_of_mem hm
    have := okC_meth hc hk
    unfold okK at this
    rw [List.getElem?_eq_getElem hk] at this
    simp only [Bool.and_eq_true] at this
    exact this.1.1
  have hty : p[i].fields.all (tyB p.length) = true := by
    unfold okCB at hc
    simp only [Bool.and_eq_true] at hc
    exact hc.1.1.2
  refine ⟨by omega, hf.1, fun x hx => ty_bd (List.all_eq_true.1 hty x hx) (by omega), hf.2, fun m hmm => ?_, fun m hmm => ?_⟩
  · have := hm m hmm
    simp only [okMB, Bool.and_eq_true, decide_eq_true_eq] at this
    exact this.1.1.1.2
  · have := hm m hmm
    simp only [okMB, Bool.and_eq_true, decide_eq_true_eq] at this
    obtain ⟨⟨⟨⟨⟨h1, h2⟩, _⟩, h3⟩, h4⟩, h5⟩ := this
    exact ⟨⟨h1, by omega⟩, fun x hx => ty_bd (List.all_eq_true.1 h3 x hx) (by omega), ty_bd h4 (by omega), h5⟩
theorem code_okC {l : List Tx.Ins} (h : Lay.codeOk l = true) : Tx.okC l = true := by
  unfold Lay.codeOk at h
  simp only [Bool.and_eq_true] at h
  exact h.1.2
theorem okC_len {l : List Tx.Ins} (h : Tx.okC l = true) : l.length ≤ 40 ∧ (Tx.showC l).length ≤ 1000 := by
  have h' := h
  unfold Tx.okC at h'
  simp only [Bool.and_eq_true, decide_eq_true_eq] at h'
  have := showC_len l h'.2
  omega
theorem okC_bd {l : List Tx.Ins} (h : Tx.okC l = true) : ∀ x ∈ l, (-9223372036854775808 ≤ x.2.1 ∧ x.2.1 ≤ 9223372036854775807) ∧ -9223372036854775808 ≤ x.2.2 ∧ x.2.2 ≤ 9223372036854775807 := by
  intro x hx
  unfold Tx.okC at h
  simp only [Bool.and_eq_true] at h
  have h1 := List.all_eq_true.1 h.2 x hx
  have ha := Tx.ok_a h1
  have hb := Tx.ok_b h1
  omega
theorem FewC.head {c : Cls} (h : FewC c) : (headL c c.meths.length).length ≤ 35 ∧ 0 < (headL c c.meths.length).length ∧ (∀ x ∈ headL c c.meths.length, -2147483648 ≤ x ∧ x ≤ 2147483647) ∧ (numsT (headL c c.meths.length)).length ≤ 1000 := by
  have h1 := headL_len h.flen h.args c.meths.length (Nat.le_refl _)
  have h2 := h.nums (fun m hm => by have := (okC_len (code_okC (h.ok m hm).2.2.2)).1; omega) c.meths.length
  have hml := h.mlen
  have h3 := numsT_len (headL c c.meths.length).length (headL c c.meths.length) h2 (Nat.le_refl _)
  rw [List.take_of_length_le (Nat.le_refl _)] at h3
  refine ⟨by omega, by simp [headL], h2, by omega⟩
theorem linesL_small {c : Cls} (h : FewC c) (k : Nat) : ∀ x ∈ linesL c k, x.length ≤ 1000 := by
  intro x hx
  simp only [linesL, List.mem_cons, List.mem_map] at hx
  rcases hx with rfl | ⟨m, hm, rfl⟩
  · exact h.head.2.2.2
  · exact (okC_len (code_okC (h.ok m (List.mem_of_mem_take hm)).2.2.2)).2
theorem linesL_len {c : Cls} (k : Nat) : (linesL c k).length ≤ k + 1 := by
  simp only [linesL, List.length_cons, List.length_map, List.length_take]; omega
theorem linesP_small {p : Prg} (h : okP p = true) : ∀ x ∈ linesP p, x.length ≤ 1000 := by
  intro x hx
  unfold linesP at hx
  obtain ⟨c, hc, hx⟩ := List.mem_flatMap.1 hx
  obtain ⟨i, hi, rfl⟩ := List.getElem_of_mem hc
  exact linesL_small (few_of h hi) _ x hx
theorem linesP_len {p : Prg} (h : okP p = true) : ∀ i, i ≤ p.length → (linesP (p.take i)).length ≤ 5 * i := by
  intro i
  induction i with
  | zero => intro _; simp [linesP]
  | succ i ih =>
    intro hi
    rw [linesP_step (by omega), List.length_append]
    have h1 := ih (by omega)
    have h2 := linesL_len (c := p[i]) p[i].meths.length
    have h3 := (few_of h (show i < p.length by omega)).mlen
    omega
theorem linesP_pos {p : Prg} (h : 1 ≤ p.length) : 1 ≤ (linesP p).length := by
  cases p with
  | nil => simp at h
  | cons c p => simp [linesP, linesL]

/-- A list of texts of one's own. -/
def GrowS (B : Nat) (w : World) (v : Value) (ls : List (List UInt8)) : Prop := w.ownsRow B 9 1 v ls.length (strs ls)
structure KeptS (B : Nat) (W W' : World) : Prop where
  below : Below B W W'
  box : ∀ b t vs, t ≠ 9 → BoxT W b t vs → BoxT W' b t vs
theorem KeptS.of {B : Nat} {W W' : World} (h : Below W.heap.size W W') (hB : B ≤ W.heap.size) : KeptS B W W' := ⟨h.mono hB, fun _ _ _ _ h1 => h1.on h⟩
theorem KeptS.refl (B : Nat) (W : World) : KeptS B W W := ⟨Below.refl _ _, fun _ _ _ _ h => h⟩
theorem KeptS.trans {B : Nat} {W W' W'' : World} (h : KeptS B W W') (h' : KeptS B W' W'') : KeptS B W W'' := ⟨h.below.trans h'.below, fun b t vs ht hb => h'.box b t vs ht (h.box b t vs ht hb)⟩
theorem KeptS.over {B : Nat} {W W' W'' : World} (h : KeptS B W W') (hB : B ≤ W.heap.size) (hb : Below W'.heap.size W' W'') : KeptS B W W'' := h.trans (KeptS.of hb (Nat.le_trans hB h.below.size))
theorem GrowS.on {B : Nat} {u v : World} {x : Value} {l : List (List UInt8)} (h : GrowS B u x l) (hb : Below u.heap.size u v) : GrowS B v x l := ownOn h hb
theorem GrowS.nil (B : Nat) (w : World) : GrowS B w (.slice none 0 0) [] := World.ownsRow_nil _ _ _ _
theorem strs_snoc (l : List (List UInt8)) (t : List UInt8) : strs (l ++ [t]) = strs l ++ [.string ⟨t.toArray⟩] := by simp [St.strs]
theorem wpList_growS {X : World} {ops : Array Oper} {rest : List Oper} {o : Oper} {a : Act} {Q : Exit → Act → World → Prop} (hgd : o.guard = none) (s x : Operand)
    (ho : o.op = .call { callee := .builtin .append, args := #[s, x], argTypes := #[46, 46] })
    (B : Nat) (v : Value) (ls : List (List UInt8)) (hs : a.eval s = v) (hg : GrowS B X v ls) (hB : B ≤ X.heap.size)
    (t : List UInt8) (hx : a.eval x = .slice (some ⟨X.heap.size, 0, none⟩) 1 1) (hlen : ls.length ≤ 1000)
    (h : ∀ v' w', GrowS B w' v' (ls ++ [t]) → KeptS B X w' → wpList Tryz.prog ops Q rest (a.put o.dst v') w') : wpList Tryz.prog ops Q (o :: rest) a (X.alloc (.cells #[.string ⟨t.toArray⟩] 9)) := by
  obtain ⟨i0, hi, hz0, hz1, hz2⟩ := info_parts infoS
  have hg' : (X.alloc (.cells #[.string ⟨t.toArray⟩] 9)).ownsRow B 9 1 v ls.length (strs ls) := hg.alloc _
  refine wpList_append_own _ hgd s x 46 ho B 9 i0 (.string ByteArray.empty) 1 16 Tryz.underlying46 hi hz0 hz1 hz2 rfl (by decide) v ls.length (strs ls) hs hg' ⟨X.heap.size, 0, none⟩ 1 1 [.string ⟨t.toArray⟩] hx rfl ?c1 ?c2 (by unfold maxLen; omega) (by omega) (by simp; omega) ?_
  case c1 =>
    intro j u hj
    match j, hj with
    | 0, hj => simp at hj; subst hj; simp [Addr.add]
  case c2 => intro u hu; simp at hu; subst hu; rfl
  intro v' w' hown hgrow _
  refine h v' w' ?_ ⟨?_, ?_⟩
  · show w'.ownsRow _ _ _ _ _ _
    rw [List.length_append, strs_snoc]
    exact hown
  · exact (((Below.refl _ _).alloc hB _).grown hgrow (by simp; omega) (fun g hg2 => (hg'.lt g hg2).1))
  · intro b t' vs ht hb
    exact (hb.on (allocBelow _ _)).kept hgrow ((hb.on (allocBelow _ _)).not_row ht hg')
end Pg
end Go.Proofs.YtbgbddahniacbaaGreatDoor

/- Contracts of the other side's small functions on programs. -/
namespace Go.Proofs.YtbgbddahniacbaaGreatDoor
namespace Pg
open Go.ChangeShapes Go.WideShapes Go.ChangeAt Go.RowKit St

set_option maxHeartbeats 400000 in
theorem l4Type (t n : Int) (w : World) :
    Calls Tryz.prog 39 #[.int .i64 t, .int .i64 n] w fun e w' => e = .returned (.bool (tyB n t)) ∧ w = w' := by
  by_cases h1 : t = -1
  · have HN : Hid (tyB n t = true) := by show _ = _; simp [tyB, h1]
    have hb : (t == -1) = true := by simpa using h1
    go_enter Tryz.func39, Tryz.ntmps39
    go_wp2
    go_ret
    exact ⟨retB HN.out.symm, rfl⟩
  · have hb : (t == -1) = false := by simpa using h1
    by_cases h2 : 0 ≤ t
    · by_cases h3 : t < n
      · have HN : Hid (tyB n t = true) := by show _ = _; simp [tyB, h2, h3]
        go_enter Tryz.func39, Tryz.ntmps39
        go_wp2
        go_ret
        exact ⟨retB HN.out.symm, rfl⟩
      · have HN : Hid (tyB n t = false) := by show _ = _; simp [tyB, h1, h3]
        go_enter Tryz.func39, Tryz.ntmps39
        go_wp2
        go_ret
        exact ⟨retB HN.out.symm, rfl⟩
    · have HN : Hid (tyB n t = false) := by show _ = _; simp [tyB, h1, h2]
      go_enter Tryz.func39, Tryz.ntmps39
      go_wp2
      go_ret
      exact ⟨retB HN.out.symm, rfl⟩

/-- The place of the class's own method of this name, or -1. -/
def ownI (c : Cls) (name : Int) : Int := match c.meths.findIdx? (fun m => decide (m.name = name)) with | none => -1 | some k => k
theorem ownI_none {c : Cls} {name : Int} (h : ∀ j, j < c.meths.length → ∀ m, c.meths[j]? = some m → m.name ≠ name) : ownI c name = -1 ∧ ownF c name = none := by
  refine ⟨?_, find_none h⟩
  have : c.meths.findIdx? (fun m => decide (m.name = name)) = none := by
    rw [List.findIdx?_eq_none_iff]
    intro m hm
    obtain ⟨j, hj, rfl⟩ := List.getElem_of_mem hm
    simpa using h j hj _ (List.getElem?_eq_getElem hj)
  simp [ownI, this]
theorem ownI_some {c : Cls} {name : Int} {k : Nat} {m : Meth} (h : ∀ j, j < k → ∀ m, c.meths[j]? = some m → m.name ≠ name) (hk : c.meths[k]? = some m) (hn : m.name = name) : ownI c name = (k : Int) ∧ ownF c name = some m := by
  refine ⟨?_, find_at h hk hn⟩
  obtain ⟨hlt, hm⟩ := List.getElem?_eq_some_iff.1 hk
  have : c.meths.findIdx? (fun m => decide (m.name = name)) = some k := by
    rw [List.findIdx?_eq_some_iff_getElem]
    refine ⟨hlt, by rw [hm]; simpa using hn, fun j hj => ?_⟩
    simpa using h j hj _ (List.getElem?_eq_getElem (by omega))
  simp [ownI, this]
theorem ownI_cases (c : Cls) (name : Int) : (ownI c name = -1 ∧ ownF c name = none) ∨ ∃ k m, k < c.meths.length ∧ c.meths[k]? = some m ∧ ownI c name = (k : Int) ∧ ownF c name = some m := by
  cases h : c.meths.findIdx? (fun m => decide (m.name = name)) with
  | none =>
    left
    rw [List.findIdx?_eq_none_iff] at h
    exact ownI_none fun j hj m hm => by
      have := h m (List.mem_of_getElem? hm)
      simpa using this
  | some k =>
    right
    rw [List.findIdx?_eq_some_iff_getElem] at h
    obtain ⟨hlt, h1, h2⟩ := h
    obtain ⟨e1, e2⟩ := ownI_some (c := c) (name := name) (k := k) (m := c.meths[k]) (fun j hj m hm => by
      have := h2 j hj
      rw [List.getElem?_eq_getElem (by omega)] at hm
      simp at hm
      subst hm
      simpa using this) (List.getElem?_eq_getElem hlt) (by simpa using h1)
    exact ⟨k, _, hlt, List.getElem?_eq_getElem hlt, e1, e2⟩

set_option maxHeartbeats 800000 in
theorem l4Own (B : Nat) (c : Cls) (q a : Option Addr) (cap af cf : Nat) (name : Int) (hn : c.meths.length ≤ 1048576) (w : World) (hm : SM front B w (.slice a c.meths.length cap) c.meths) :
    Calls Tryz.prog 32 #[.agg #[.int .i64 c.super, .slice q af cf, .slice a c.meths.length cap], .int .i64 name] w fun e w' => e = .returned (.int .i64 (ownI c name)) ∧ Below w.heap.size w w' := by
  obtain ⟨W, hW⟩ : ∃ W, W = w.alloc (.cells #[.int .i64 c.super, .slice q af cf, .slice a c.meths.length cap] 45) := ⟨_, rfl⟩
  have hwW : Below w.heap.size w W := by rw [hW]; exact (Below.refl _ _).alloc (Nat.le_refl _) _
  have HM : Hid (SM front B W (.slice a c.meths.length cap) c.meths) := SM.on hm (Keep.of hwW)
  have C0 : Hid (Cells W w.heap.size [.int .i64 c.super, .slice q af cf, .slice a c.meths.length cap]) := by rw [hW]; exact Cells.new w _ rfl _ _
  clear hm
  go_enter Tryz.func32, Tryz.ntmps32
  go_wp2
  rw [← hW]
  clear hW
  go_loopw [5] (fun i wr => ∃ k : Nat, k ≤ c.meths.length ∧ i = .int .i64 k ∧ Hid (∀ j, j < k → ∀ m, c.meths[j]? = some m → m.name ≠ name) ∧ Below W.heap.size W wr) (fun i _ => c.meths.length - (intOf i).toNat)
  case atStart => exact ⟨0, Nat.zero_le _, rfl, fun j h => absurd h (Nat.not_lt_zero _), Below.refl _ _⟩
  case round =>
    obtain ⟨k, hk, rfl, hno, hb⟩ := hrel
    have hwr : Below w.heap.size w wr := below_over hwW hb
    obtain ⟨q2, _⟩ := (C0.out.on hb).g2
    by_cases hlt : k < c.meths.length
    · obtain ⟨b, o, rfl, _, va, vc, c0, _⟩ := (SM.on HM.out (Keep.of hb)).get hlt
      have HK : Hid (c.meths[k].name = name → ownI c name = (k : Int)) := fun h => (ownI_some hno.out (List.getElem?_eq_getElem hlt) h).1
      have HKN : Hid (c.meths[k].name ≠ name → ∀ j, j < k + 1 → ∀ m, c.meths[j]? = some m → m.name ≠ name) := fun h j hj m hm => by
        by_cases e : j = k
        · subst e
          rw [List.getElem?_eq_getElem hlt] at hm
          simp at hm
          subst hm
          exact h
        · exact hno.out j (by omega) m hm
      clear hno
      generalize c.meths[k] = m at *
      have hki : (k : Int) < (c.meths.length : Int) := by omega
      by_cases hnm : m.name = name
      · have HO : Hid (ownI c name = (k : Int)) := HK.out hnm
        have hnb : (m.name == name) = true := by simpa using hnm
        clear HK HKN hnm
        go_wp2
        go_ret
        exact ⟨retI HO.out.symm, hwr⟩
      · have HN : Hid (∀ j, j < k + 1 → ∀ m, c.meths[j]? = some m → m.name ≠ name) := HKN.out hnm
        have hnb : (m.name == name) = false := by simpa using hnm
        clear HK HKN hnm
        go_wp2
        go_roundw
        case rel => exact ⟨k + 1, by omega, by go_num, HN.out, hb⟩
        case measure => simp [intOf]; omega
    · have HN : Hid (ownI c name = -1) := (ownI_none (fun j hj m hm => hno.out j (by omega) m hm)).1
      go_wp2
      go_ret
      exact ⟨retI HN.out.symm, hwr⟩

theorem diffNo {l r : List Int} {k : Nat} (h1 : k < l.length) (h2 : k < r.length) (h : l[k] ≠ r[k]) : decide (l = r) = false := by
  simp only [decide_eq_false_iff_not]
  intro e
  subst e
  exact h rfl
theorem sameTake {l r : List Int} {k : Nat} (h1 : k < l.length) (h2 : k < r.length) (h : l.take k = r.take k) (he : l[k] = r[k]) : l.take (k + 1) = r.take (k + 1) := by
  rw [List.take_succ_eq_append_getElem h1, List.take_succ_eq_append_getElem h2, h, he]
set_option maxHeartbeats 1000000 in
theorem l4Like {f f' : Bool} (B B' : Nat) (a a' : Option Addr) (cap cap' : Nat) (l r : List Int) (hl : l.length ≤ 1048576) (w : World) (h1 : SI f B w (.slice a l.length cap) l) (h2 : SI f' B' w (.slice a' r.length cap') r) :
    Calls Tryz.prog 41 #[.slice a l.length cap, .slice a' r.length cap'] w fun e w' => e = .returned (.bool (decide (l = r))) ∧ Below w.heap.size w w' := by
  have H1 : Hid (SI f B w (.slice a l.length cap) l) := h1
  have H2 : Hid (SI f' B' w (.slice a' r.length cap') r) := h2
  clear h1 h2
  by_cases hlen : l.length = r.length
  · have HLEN : Hid (l.length = r.length) := hlen
    rw [← hlen]
    clear hlen
    go_enter Tryz.func41, Tryz.ntmps41
    go_wp2
    go_loopw [5] (fun i wr => ∃ k : Nat, k ≤ l.length ∧ i = .int .i64 k ∧ Hid (l.take k = r.take k) ∧ Below w.heap.size w wr) (fun i _ => l.length - (intOf i).toNat)
    case atStart => exact ⟨0, Nat.zero_le _, rfl, rfl, Below.refl _ _⟩
    case round =>
      obtain ⟨k, hk, rfl, hsame, hb⟩ := hrel
      by_cases hlt : k < l.length
      · have hlr : k < r.length := by rw [← HLEN.out]; exact hlt
        obtain ⟨b, o, rfl, _, a0⟩ := (SI.on H1.out (Keep.of hb)).get hlt
        obtain ⟨b', o', rfl, _, b0⟩ := (SI.on H2.out (Keep.of hb)).get hlr
        unfold IntAt at a0 b0
        rw [Nat.mul_one] at a0 b0
        have HT : Hid (l[k] = r[k] → l.take (k + 1) = r.take (k + 1)) := fun h => sameTake hlt hlr hsame.out h
        have HF : Hid (l[k] ≠ r[k] → decide (l = r) = false) := fun h => diffNo hlt hlr h
        generalize l[k] = x at *
        generalize r[k] = y at *
        clear hlr hsame
        have hki : (k : Int) < (l.length : Int) := by omega
        have hki0 : (0 : Int) ≤ (k : Int) := by omega
        have r0 := cell_regrown a0
        have s0 := cell_regrown b0
        by_cases hxy : x = y
        · subst hxy
          have HS : Hid (l.take (k + 1) = r.take (k + 1)) := HT.out rfl
          clear HT HF
          go_wp2_with fail
          refine wp_region_quiet_below (by kernel_rfl) (by kernel_rfl) ?_
          repeat (quiet_step (fail))
          refine wpQuiet_nil ?_
          intro _ hw'
          obtain ⟨⟨dq, osq⟩, hw''⟩ := hw'
          subst hw''
          have hw1 : Below w.heap.size w (Sort.grow (redrawn wr dq) osq) := below_over hb (below_regrown wr dq osq)
          clear a0 b0 r0 s0 hb
          generalize Sort.grow (redrawn wr dq) osq = w1 at *
          go_wp2
          go_roundw
          case rel => exact ⟨k + 1, by omega, by go_num, HS.out, hw1⟩
          case measure => simp [intOf]; omega
        · have HS : Hid (decide (l = r) = false) := HF.out hxy
          have hxb : (x != y) = true := by simpa using hxy
          clear HT HF
          go_wp2_with fail
          refine wp_region_quiet_below (by kernel_rfl) (by kernel_rfl) ?_
          repeat (quiet_step (fail))
          refine wpQuiet_nil ?_
          intro _ hw'
          obtain ⟨⟨dq, osq⟩, hw''⟩ := hw'
          subst hw''
          have hw1 : Below w.heap.size w (Sort.grow (redrawn wr dq) osq) := below_over hb (below_regrown wr dq osq)
          clear a0 b0 r0 s0 hb
          generalize Sort.grow (redrawn wr dq) osq = w1 at *
          go_wp2
          go_ret
          exact ⟨retB HS.out.symm, hw1⟩
      · have HN : Hid (decide (l = r) = true) := by
          show _ = _
          have h := hsame.out
          rw [List.take_of_length_le (by omega), List.take_of_length_le (by have := HLEN.out; omega)] at h
          simpa using h
        go_wp2
        go_ret
        exact ⟨retB HN.out.symm, hb⟩
  · have HN : Hid (decide (l = r) = false) := by
      show _ = _
      simp only [decide_eq_false_iff_not]
      intro e; exact hlen (by rw [e])
    have hnb : ((l.length : Int) != (r.length : Int)) = true := by
      have : ¬ (l.length : Int) = (r.length : Int) := by omega
      simpa using this
    go_enter Tryz.func41, Tryz.ntmps41
    go_wp2
    go_ret
    exact ⟨retB HN.out.symm, Below.refl _ _⟩

set_option maxHeartbeats 1000000 in
theorem l4Method (B : Nat) (m : Meth) (n : Int) (va vc : Value) (hs : SmallM m) (w : World) (hv : MV front B w va vc m) :
    Calls Tryz.prog 40 #[.agg #[.int .i64 m.name, va, .int .i64 m.gives, vc], .int .i64 n] w fun e w' => e = .returned (.bool (okMB n m)) ∧ Below w.heap.size w w' := by
  obtain ⟨x1, y1, rfl⟩ := hv.1.form
  obtain ⟨gc, y2, rfl, _, _, hrow, _⟩ := hv.2
  have HI : Hid (SI true B w (.slice x1 m.args.length y1) m.args) := hv.1
  have HR : Hid (Row w gc 0 m.code) := hrow
  have hs1 := hs.1
  have hs2 := hs.2
  clear hv hrow hs
  obtain ⟨W, hW⟩ : ∃ W, W = w.alloc (.cells #[.int .i64 m.name, .slice x1 m.args.length y1, .int .i64 m.gives, .slice (some ⟨gc, 0, none⟩) m.code.length y2] 35) := ⟨_, rfl⟩
  have hwW : Below w.heap.size w W := by rw [hW]; exact (Below.refl _ _).alloc (Nat.le_refl _) _
  have M0 : Hid (Cells W w.heap.size [.int .i64 m.name, .slice x1 m.args.length y1, .int .i64 m.gives, .slice (some ⟨gc, 0, none⟩) m.code.length y2]) := by rw [hW]; exact Cells.new w _ rfl _ _
  obtain ⟨nm, hnm⟩ : ∃ nm, nm = (decide (0 ≤ m.name) && decide (m.name ≤ 19)) := ⟨_, rfl⟩
  obtain ⟨m0, _⟩ := M0.out.g0
  obtain ⟨m1, _⟩ := M0.out.g1
  obtain ⟨m2, _⟩ := M0.out.g2
  obtain ⟨m3, _⟩ := M0.out.g3
  have HOK : Hid (okMB n m = (nm && decide (m.args.length ≤ 3) && m.args.all (tyB n) && tyB n m.gives && Lay.codeOk m.code)) := by
    show _ = _
    unfold okMB
    rw [hnm]
  go_enter Tryz.func40, Tryz.ntmps40
  go_wp2_with fail
  rw [← hW]
  clear hW
  refine (l1In m.name 0 19 _).mono ?_
  rw [← hnm]
  rintro e w1 ⟨rfl, rfl⟩
  clear hnm
  cases nm
  · have HF : Hid (okMB n m = false) := by show _ = _; rw [HOK.out]; simp
    go_wp2
    go_ret
    exact ⟨retB HF.out.symm, hwW⟩
  · by_cases h3 : m.args.length ≤ 3
    · have h3i : ¬ (3 : Int) < (m.args.length : Int) := by omega
      go_wp2_with fail
      refine (l4Type m.gives n _).mono ?_
      rintro e w1 ⟨rfl, rfl⟩
      cases hg : tyB n m.gives
      · have HF : Hid (okMB n m = false) := by show _ = _; rw [HOK.out, hg]; simp
        go_wp2
        go_ret
        exact ⟨retB HF.out.symm, hwW⟩
      · go_wp2_with fail
        refine (specCodeOk gc y2 m.code hs2 _ (HR.out.on hwW)).mono ?_
        rintro e w2 ⟨rfl, hb2⟩
        have hw2 : Below w.heap.size w w2 := below_over hwW hb2
        cases hc : Lay.codeOk m.code
        · have HF : Hid (okMB n m = false) := by show _ = _; rw [HOK.out, hc]; simp
          clear hb2
          go_wp2
          go_ret
          exact ⟨retB HF.out.symm, hw2⟩
        · have HF : Hid (okMB n m = m.args.all (tyB n)) := by show _ = _; rw [HOK.out, hc, hg]; simp [h3]
          clear HOK m0 m1 m2 m3
          go_wp2
          go_loopw [5] (fun i wr => ∃ k : Nat, k ≤ m.args.length ∧ i = .int .i64 k ∧ Hid ((m.args.take k).all (tyB n) = true) ∧ Below W.heap.size W wr) (fun i _ => m.args.length - (intOf i).toNat)
          case atStart => exact ⟨0, Nat.zero_le _, rfl, rfl, hb2⟩
          case round =>
            clear hb2 hw2
            obtain ⟨k, hk, rfl, hall, hb⟩ := hrel
            have hwr : Below w.heap.size w wr := below_over hwW hb
            obtain ⟨q1, _⟩ := (M0.out.on hb).g1
            by_cases hlt : k < m.args.length
            · obtain ⟨b, o, rfl, _, c1⟩ := (SI.on HI.out (Keep.of hwr)).get hlt
              unfold IntAt at c1
              rw [Nat.mul_one] at c1
              have HT : Hid (tyB n m.args[k] = true → (m.args.take (k + 1)).all (tyB n) = true) := fun h => take_all hlt hall.out h
              have HNO : Hid (tyB n m.args[k] = false → m.args.all (tyB n) = false) := fun h => all_no hlt h
              generalize m.args[k] = t at *
              have hki : (k : Int) < (m.args.length : Int) := by omega
              clear hall
              go_wp2_with fail
              refine (l4Type t n _).mono ?_
              rintro e w1 ⟨rfl, rfl⟩
              clear q1 c1
              cases ht : tyB n t
              · have HX : Hid (okMB n m = false) := by show _ = _; rw [HF.out]; exact HNO.out ht
                go_wp2
                go_ret
                exact ⟨retB HX.out.symm, hwr⟩
              · have HX : Hid ((m.args.take (k + 1)).all (tyB n) = true) := HT.out ht
                clear HT HNO
                go_wp2
                go_roundw
                case rel => exact ⟨k + 1, by omega, by go_num, HX.out, hb⟩
                case measure => simp [intOf]; omega
            · have HX : Hid (okMB n m = true) := by
                show _ = _
                rw [HF.out]
                have h := hall.out
                rw [List.take_of_length_le (by omega)] at h
                exact h
              go_wp2
              go_ret
              exact ⟨retB HX.out.symm, hwr⟩
    · have HF : Hid (okMB n m = false) := by show _ = _; rw [HOK.out]; simp [h3]
      have h3i : (3 : Int) < (m.args.length : Int) := by omega
      go_wp2
      go_ret
      exact ⟨retB HF.out.symm, hwW⟩
end Pg
end Go.Proofs.YtbgbddahniacbaaGreatDoor
