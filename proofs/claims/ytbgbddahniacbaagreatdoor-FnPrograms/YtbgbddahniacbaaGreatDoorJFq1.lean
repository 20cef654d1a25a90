/- Contracts of both sides' FieldsOf. -/
import Derived.Test.YtbgbddahniacbaaGreatDoorJPcm
import Derived.Test.YtbgbddahniacbaaGreatDoorJPb0
namespace Go.Proofs.YtbgbddahniacbaaGreatDoor
namespace Pg
open Go.ChangeShapes Go.WideShapes Go.ChangeAt Go.RowKit St

theorem fieldsF_split (p : Prg) (t : Int) : fieldsF p t = if okP p && inB p t then fieldsR p 6 t else [] := rfl
theorem Grow.base {B B' : Nat} {w : World} {v : Value} {l : List Int} (h : Grow B w v l) (hB : B' ≤ B) : Grow B' w v l := ⟨ownBase h.1 hB, h.2⟩
theorem grow_nil1 (w : World) (B : Nat) (hB : B ≤ w.heap.size) : Grow B (w.alloc (.cells #[] 2)) (.slice (some ⟨w.heap.size, 0, none⟩) 0 0) [] := by
  refine ⟨ownBase (B := w.heap.size) ?_ hB, by simp⟩
  have h : (w.alloc (.cells #[] 2)).ownsRow w.heap.size 2 1 (.slice (some ⟨w.heap.size, 0, none⟩) 0 0) 0 [] := World.ownsRow_made w #[] 0 (Nat.le_refl _) (by decide) (by simp)
  simpa [nums] using h

set_option maxHeartbeats 1000000 in
theorem implFieldsOf (B : Nat) (p : Prg) (a : Option Addr) (cap : Nat) (t : Int) (hsp : SmallP p) (w : World) (hp : SK front B w (.slice a p.length cap) p) :
    Calls Tryz.prog 6 #[.agg #[.slice a p.length cap], .int .i64 t] w fun e w' => ∃ v, e = .returned v ∧ Grow w.heap.size w' v (fieldsF p t) ∧ Below w.heap.size w w' := by
  have HSP : Hid (SmallP p) := hsp
  have HP : Hid (SK front B w (.slice a p.length cap) p) := hp
  clear hp hsp
  obtain ⟨W, hW⟩ : ∃ W, W = w.alloc (.cells #[.slice a p.length cap] 26) := ⟨_, rfl⟩
  have hwW : Below w.heap.size w W := by rw [hW]; exact (Below.refl _ _).alloc (Nat.le_refl _) _
  have P0 : Hid (Cells W w.heap.size [.slice a p.length cap]) := by rw [hW]; exact Cells.new w _ rfl _ _
  go_enter Tryz.func6, Tryz.ntmps6
  go_wp2_with fail
  rw [← hW]
  clear hW
  refine (isRightClass B p a cap t HSP.out _ (SK.on HP.out (Keep.of hwW))).mono ?_
  rintro e w1 ⟨rfl, hb1⟩
  have hw1 : Below w.heap.size w w1 := below_over hwW hb1
  obtain ⟨q0, _⟩ := (P0.out.on hb1).g0
  clear hb1 P0
  cases hok : (okP p && inB p t)
  · have HN : Hid (fieldsF p t = []) := by show _ = _; rw [fieldsF_split, hok]; rfl
    go_wp2
    go_ret
    exact ⟨_, rfl, by rw [HN.out]; exact grow_nil1 w1 _ hw1.size, hw1.alloc hw1.size _⟩
  · have HN : Hid (fieldsF p t = fieldsR p 6 t) := by show _ = _; rw [fieldsF_split, hok]; rfl
    simp only [Bool.and_eq_true, inB, decide_eq_true_eq] at hok
    obtain ⟨hk, h0, h1⟩ := hok
    obtain ⟨b, o, rfl, _, _⟩ := HP.out.get (k := 0) (by omega)
    have HOK : Hid (okP p = true) := hk
    clear hk
    go_wp2_with fail
    refine (fieldsDownTo B p b o cap HOK.out w HP.out (p.length) t _ (by omega) h1 h1 hw1).mono ?_
    rintro e w3 ⟨v, rfl, hg, hb3⟩
    have hw3 : Below w.heap.size w w3 := below_over hw1 hb3
    have HG : Hid (Grow w.heap.size w3 v (fieldsR p 6 t)) := hg.base hw1.size
    clear hg hb3 q0
    go_wp2
    go_ret
    exact ⟨_, rfl, by rw [HN.out]; exact HG.out, hw3⟩

set_option maxHeartbeats 1000000 in
theorem specFieldsOf (B : Nat) (p : Prg) (a : Option Addr) (cap : Nat) (t : Int) (hsp : SmallP p) (w : World) (hp : SK front B w (.slice a p.length cap) p) :
    Calls Tryz.prog 13 #[.agg #[.slice a p.length cap], .int .i64 t] w fun e w' => ∃ v, e = .returned v ∧ Grow w.heap.size w' v (fieldsF p t) ∧ Below w.heap.size w w' := by
  have HSP : Hid (SmallP p) := hsp
  have HP : Hid (SK front B w (.slice a p.length cap) p) := hp
  clear hp hsp
  obtain ⟨W, hW⟩ : ∃ W, W = w.alloc (.cells #[.slice a p.length cap] 26) := ⟨_, rfl⟩
  have hwW : Below w.heap.size w W := by rw [hW]; exact (Below.refl _ _).alloc (Nat.le_refl _) _
  have P0 : Hid (Cells W w.heap.size [.slice a p.length cap]) := by rw [hW]; exact Cells.new w _ rfl _ _
  go_enter Tryz.func13, Tryz.ntmps13
  go_wp2_with fail
  rw [← hW]
  clear hW
  refine (l4In B p a cap t HSP.out _ (SK.on HP.out (Keep.of hwW))).mono ?_
  rintro e w1 ⟨rfl, hb1⟩
  have hw1 : Below w.heap.size w w1 := below_over hwW hb1
  obtain ⟨q0, _⟩ := (P0.out.on hb1).g0
  clear hb1 P0
  cases hok : (okP p && inB p t)
  · have HN : Hid (fieldsF p t = []) := by show _ = _; rw [fieldsF_split, hok]; rfl
    go_wp2
    go_ret
    exact ⟨_, rfl, by rw [HN.out]; exact grow_nil1 w1 _ hw1.size, hw1.alloc hw1.size _⟩
  · have HN : Hid (fieldsF p t = fieldsR p 6 t) := by show _ = _; rw [fieldsF_split, hok]; rfl
    simp only [Bool.and_eq_true, inB, decide_eq_true_eq] at hok
    obtain ⟨hk, h0, h1⟩ := hok
    obtain ⟨b, o, rfl, _, _⟩ := HP.out.get (k := 0) (by omega)
    have HOK : Hid (okP p = true) := hk
    clear hk
    go_wp2_with fail
    refine (l4Fields B p b o cap HOK.out w HP.out (p.length) t _ (by omega) h1 h1 hw1).mono ?_
    rintro e w3 ⟨v, rfl, hg, hb3⟩
    have hw3 : Below w.heap.size w w3 := below_over hw1 hb3
    have HG : Hid (Grow w.heap.size w3 v (fieldsR p 6 t)) := hg.base hw1.size
    clear hg hb3 q0
    go_wp2
    go_ret
    exact ⟨_, rfl, by rw [HN.out]; exact HG.out, hw3⟩
theorem fieldsF_len (p : Prg) (t : Int) : (fieldsF p t).length ≤ 24 := by
  unfold fieldsF
  split
  · rename_i h
    simp only [Bool.and_eq_true, decide_eq_true_eq] at h
    have hl := (okP_len h.1).2
    exact fieldsR_len (okP_sup h.1) hl (Nat.le_refl _) (okP_four h.1) 6 _ (by omega) h.2.2
  · simp
end Pg
end Go.Proofs.YtbgbddahniacbaaGreatDoor

/- Facts for the law FnPrograms: lines, bulk, fields, names. -/
namespace Go.Proofs.YtbgbddahniacbaaGreatDoor
namespace Pg
open Go.ChangeShapes Go.WideShapes Go.ChangeAt Go.RowKit St

theorem join_mem (c : UInt8) : ∀ ls : List (List UInt8), c ∈ Lib.join ls [32] → c = 32 ∨ ∃ l ∈ ls, c ∈ l := by
  intro ls
  induction ls with
  | nil => intro h; simp [Lib.join, List.intercalate] at h
  | cons x ls ih =>
    intro h
    cases ls with
    | nil =>
      simp [Lib.join, List.intercalate] at h
      exact .inr ⟨x, by simp, h⟩
    | cons y r =>
      have e : Lib.join (x :: y :: r) [32] = x ++ 32 :: Lib.join (y :: r) [32] := by simp [Lib.join, List.intercalate]
      rw [e] at h
      rcases List.mem_append.1 h with h | h
      · exact .inr ⟨x, by simp, h⟩
      · rcases List.mem_cons.1 h with h | h
        · exact .inl h
        · rcases ih h with h | ⟨l, hl, hc⟩
          · exact .inl h
          · exact .inr ⟨l, List.mem_cons_of_mem _ hl, hc⟩
theorem nums_no10 (l : List Int) : (10 : UInt8) ∉ numsT l := by
  intro h
  rcases join_mem 10 _ h with h | ⟨x, hx, hc⟩
  · exact absurd h (by decide)
  · obtain ⟨a, _, rfl⟩ := List.mem_map.1 hx
    exact Tx.itoa_no a 10 (Or.inl (by decide)) hc
theorem show_no10 {op a b : Int} (h : Tx.okI op a b = true) : (10 : UInt8) ∉ Tx.showI op a b := by
  have ho := Tx.ok_op h
  have hl := Tx.letter_op ho.1 ho.2
  have na : (10 : UInt8) ∉ Lib.itoa a := Tx.itoa_no a 10 (Or.inl (by decide))
  have nb : (10 : UInt8) ∉ Lib.itoa b := Tx.itoa_no b 10 (Or.inl (by decide))
  unfold Tx.showI Tx.tellI
  intro hm
  rcases List.mem_cons.1 hm with e | hm
  · rw [← e] at hl; have h32 : (10 : UInt8).toNat = 10 := rfl; omega
  · split at hm
    · simp at hm
    · split at hm
      · exact na hm
      · simp only [List.mem_append, List.mem_cons] at hm
        rcases hm with hm | hm | hm
        · exact na hm
        · exact absurd hm (by decide)
        · exact nb hm
theorem code_no10 {l : List Tx.Ins} (h : Tx.okC l = true) : (10 : UInt8) ∉ Tx.showC l := by
  intro hm
  unfold Tx.okC at h
  simp only [Bool.and_eq_true] at h
  rcases join_mem 10 _ hm with h' | ⟨x, hx, hc⟩
  · exact absurd h' (by decide)
  · obtain ⟨i, hi, rfl⟩ := List.mem_map.1 hx
    exact show_no10 (List.all_eq_true.1 h.2 i hi) hc
theorem text_count : ∀ ls : List (List UInt8), (∀ x ∈ ls, (10 : UInt8) ∉ x) → (textL ls).count 10 = ls.length := by
  intro ls
  induction ls with
  | nil => intro _; simp [textL]
  | cons x ls ih =>
    intro h
    have e : textL (x :: ls) = x ++ [10] ++ textL ls := by simp [textL]
    rw [e, List.count_append, List.count_append, ih (fun y hy => h y (List.mem_cons_of_mem _ hy)), List.count_eq_zero.2 (h x (by simp))]
    simp; omega
def metN (p : Prg) : Nat := sumN (p.map fun c => c.meths.length)
theorem linesP_count (p : Prg) : (linesP p).length = p.length + metN p := by
  induction p with
  | nil => simp [linesP, metN, sumN]
  | cons c p ih =>
    have e : linesP (c :: p) = linesL c c.meths.length ++ linesP p := by simp [linesP]
    have e2 : metN (c :: p) = c.meths.length + metN p := by simp [metN, sumN]
    rw [e, e2, List.length_append, ih]
    simp [linesL]; omega
theorem prog_count {p : Prg} (h : okP p = true) : (progT p).count 10 = p.length + metN p := by
  unfold progT
  rw [text_count _ ?_, linesP_count]
  intro x hx
  unfold linesP at hx
  obtain ⟨c, hc, hx⟩ := List.mem_flatMap.1 hx
  obtain ⟨i, hi, rfl⟩ := List.getElem_of_mem hc
  simp only [linesL, List.mem_cons, List.mem_map] at hx
  rcases hx with rfl | ⟨m, hm, rfl⟩
  · exact nums_no10 _
  · exact code_no10 (code_okC ((few_of h hi).ok m (List.mem_of_mem_take hm)).2.2.2)
theorem prog_len {p : Prg} (h : okP p = true) : (progT p).length ≤ 40000 := by
  have h1 := textL_len (linesP p).length (linesP p) (linesP_small h) (Nat.le_refl _)
  rw [List.take_of_length_le (Nat.le_refl _)] at h1
  have h2 := linesP_len h p.length (Nat.le_refl _)
  rw [List.take_of_length_le (Nat.le_refl _)] at h2
  have h3 := (okP_len h).2
  show (textL (linesP p)).length ≤ _
  omega
theorem met_step {p : Prg} {i : Nat} (hi : i < p.length) : metN (p.take (i + 1)) = metN (p.take i) + p[i].meths.length := sumN_take_succ _ p i hi
theorem sumN_all {α : Type} (f : α → Nat) (K : Nat) : ∀ l : List α, (∀ x ∈ l, f x ≤ K) → sumN (l.map f) ≤ l.length * K := by
  intro l
  induction l with
  | nil => intro _; simp [sumN]
  | cons x l ih =>
    intro h
    have h1 := ih (fun y hy => h y (List.mem_cons_of_mem _ hy))
    have h2 := h x (by simp)
    have e : sumN ((x :: l).map f) = f x + sumN (l.map f) := by simp [sumN]
    rw [e, List.length_cons, Nat.add_mul, Nat.one_mul]
    omega
theorem ok_size {p : Prg} (h : okP p = true) : szP p ≤ 100000 := by
  have hl := (okP_len h).2
  have h1 : sumN (p.map szC) ≤ p.length * 2000 := sumN_all szC 2000 p (fun c hc => by
    obtain ⟨i, hi, rfl⟩ := List.getElem_of_mem hc
    have hf := few_of h hi
    have h2 : sumN (p[i].meths.map szM) ≤ p[i].meths.length * 100 := sumN_all szM 100 _ (fun m hm => by
      have h3 := hf.args m hm
      have h4 := (okC_len (code_okC (hf.ok m hm).2.2.2)).1
      unfold szM
      omega)
    have h5 := hf.flen
    have h6 := hf.mlen
    have h7 : p[i].meths.length * 100 ≤ 4 * 100 := Nat.mul_le_mul_right _ h6
    unfold szC szMs
    omega)
  have h8 : p.length * 2000 ≤ 6 * 2000 := Nat.mul_le_mul_right _ hl
  unfold szP
  omega
theorem met_take (p : Prg) (i : Nat) : metN (p.take i) ≤ metN p := sumN_take_le _ p i
theorem met_small {p : Prg} (h : okP p = true) : metN p ≤ 100 := by
  have hl := (okP_len h).2
  have h1 : metN p ≤ p.length * 4 := sumN_all _ 4 p (fun c hc => by
    obtain ⟨i, hi, rfl⟩ := List.getElem_of_mem hc
    exact (few_of h hi).mlen)
  omega
theorem implBulkS (B : Nat) (p : Prg) (a : Option Addr) (cap : Nat) (hsp : SmallP p) (w : World) (hp : SK front B w (.slice a p.length cap) p) :
    Calls Tryz.prog 17 #[.agg #[.slice a p.length cap]] w fun e w' => e = .returned (.int .i64 (bulkF p)) ∧ Below w.heap.size w w' := by
  by_cases hok : okP p = true
  · exact implBulk B p a cap (by have := ok_size hok; omega) w hp
  · have hok' : okP p = false := by simpa using hok
    have HN : Hid (bulkF p = -1) := by show _ = _; simp [bulkF, hok']
    have HP : Hid (SK front B w (.slice a p.length cap) p) := hp
    have HSP : Hid (SmallP p) := hsp
    have hwW : Below w.heap.size w (w.alloc (.cells #[.slice a p.length cap] 26)) := allocBelow _ _
    clear hp hsp hok
    go_enter Tryz.func17, Tryz.ntmps17
    go_wp2_with fail
    refine (implProgramOk B p a cap HSP.out _ (SK.on HP.out (Keep.of hwW))).mono ?_
    rw [hok']
    rintro e w1 ⟨rfl, hb1⟩
    have hw1 : Below w.heap.size w w1 := below_over hwW hb1
    clear hb1
    go_wp2
    go_ret
    exact ⟨retI HN.out.symm, hw1⟩
theorem specBulkS (B : Nat) (p : Prg) (a : Option Addr) (cap : Nat) (hsp : SmallP p) (w : World) (hp : SK front B w (.slice a p.length cap) p) :
    Calls Tryz.prog 18 #[.agg #[.slice a p.length cap]] w fun e w' => e = .returned (.int .i64 (bulkF p)) ∧ Below w.heap.size w w' := by
  by_cases hok : okP p = true
  · exact specBulk B p a cap (by have := ok_size hok; omega) w hp
  · have hok' : okP p = false := by simpa using hok
    have HN : Hid (bulkF p = -1) := by show _ = _; simp [bulkF, hok']
    have HP : Hid (SK front B w (.slice a p.length cap) p) := hp
    have HSP : Hid (SmallP p) := hsp
    have hwW : Below w.heap.size w (w.alloc (.cells #[.slice a p.length cap] 26)) := allocBelow _ _
    clear hp hsp hok
    go_enter Tryz.func18, Tryz.ntmps18
    go_wp2_with fail
    refine (specProgramOk B p a cap HSP.out _ (SK.on HP.out (Keep.of hwW))).mono ?_
    rw [hok']
    rintro e w1 ⟨rfl, hb1⟩
    have hw1 : Below w.heap.size w w1 := below_over hwW hb1
    clear hb1
    go_wp2
    go_ret
    exact ⟨retI HN.out.symm, hw1⟩
theorem fieldsF_eq (p : Prg) (t : Int) : fieldsF p t = if okP p && inB p t then fieldsR p 6 t else [] := rfl
theorem fieldsF_no {p : Prg} {t : Int} (h : okP p = false) : fieldsF p t = [] := by unfold fieldsF; rw [h]; rfl
theorem fieldsF_out {p : Prg} {t : Int} (h : t < 0 ∨ (p.length : Int) ≤ t) : fieldsF p t = [] := by
  rw [fieldsF_eq]
  have : inB p t = false := by
    simp only [inB, Bool.and_eq_false_iff, decide_eq_false_iff_not]
    omega
  rw [this, Bool.and_false]; rfl
theorem fieldsF_up {p : Prg} (h : okP p = true) {u : Nat} (hu : u < p.length) : fieldsF p (u : Int) = fieldsF p p[u].super ++ p[u].fields := by
  have hl := (okP_len h).2
  have hs := okP_sup h u p[u] hu (List.getElem?_eq_getElem hu)
  have e1 : fieldsF p (u : Int) = fieldsR p 6 (u : Int) := by
    rw [fieldsF_eq]
    have : inB p (u : Int) = true := by simp [inB]; omega
    rw [h, this]; rfl
  have e2 : fieldsF p p[u].super = fieldsR p 6 p[u].super := by
    by_cases h0 : p[u].super < 0
    · rw [fieldsF_out (.inl h0), fieldsR_neg _ _ h0]
    · rw [fieldsF_eq]
      have : inB p p[u].super = true := by simp [inB]; omega
      rw [h, this]; rfl
  rw [e1, e2, fieldsR_step (okP_sup h) hu (by omega) (List.getElem?_eq_getElem hu)]
theorem meth_name {p : Prg} {t name : Int} (h : (methF p t name).isSome = true) : ((methF p t name).getD zeroMt).name = name := by
  unfold methF at h ⊢
  split at h
  · rename_i hok
    rw [if_pos hok]
    cases hc : p[t.toNat]? with
    | none => rw [hc] at h; cases h
    | some c =>
      rw [hc] at h
      simp only [] at h ⊢
      cases ho : ownF c name with
      | none => rw [ho] at h; cases h
      | some m =>
        have := List.find?_some ho
        simpa using this
  · cases h
theorem meth_small {p : Prg} (hs : SmallP p) (t name : Int) : SmallM ((methF p t name).getD zeroMt) := by
  unfold methF
  split
  · cases hc : p[t.toNat]? with
    | none => exact ⟨by simp [zeroMt], by simp [zeroMt]⟩
    | some c =>
      simp only []
      cases ho : ownF c name with
      | none => exact ⟨by simp [zeroMt], by simp [zeroMt]⟩
      | some m => exact (hs.2 c (List.mem_of_getElem? hc)).2.2 m (List.mem_of_find?_eq_some ho)
  · exact ⟨by simp [zeroMt], by simp [zeroMt]⟩
end Pg
end Go.Proofs.YtbgbddahniacbaaGreatDoor
