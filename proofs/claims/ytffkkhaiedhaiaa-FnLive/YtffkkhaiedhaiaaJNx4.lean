/- Contracts: the set of what may come next, two sets as one, and both sides' Nexts. -/
import Derived.Test.YtffkkhaiedhaiaaJNx1
import Derived.Deep.WholeRow
namespace Go.Proofs.Ytffkkhaiedhaiaa
namespace Pg
open Go.ChangeShapes Go.WideShapes Go.ChangeAt Go.RowKit St

theorem below_setCells {B b : Nat} (hb : B ≤ b) : ∀ (vs : List Value) (o : Nat) {u v : World}, Below B u v → Below B u (v.setCells b o vs)
  | [], _, _, _, h => h
  | _ :: r, o, _, _, h => below_setCells hb r (o + 1) (h.setCell hb _)
theorem size_setCells {b : Nat} : ∀ (vs : List Value) (o : Nat) (v : World), (v.setCells b o vs).heap.size = v.heap.size
  | [], _, _ => rfl
  | _ :: r, o, v => by rw [World.setCells, size_setCells r (o + 1)]; simp
/-- A result that lies in a variable of its own: an array. -/
theorem ret_cell {fn : Func} {p ty : Nat} (hres : fn.results = #[.cell p ty]) {tmps : Array Value} {w : World} {b : Nat} (hp : tmps.getD p undef = .pointer (some ⟨b, 0, none⟩)) {cs : List Value} (hc : w.rangeAt b 0 cs) {d : TypeDesc} (hu : Try.prog.underlying ty = some d) (hd : d.isRow = true) (hi : (Try.prog.info? ty).map (·.size) = some cs.length) :
    (results fn tmps).run Try.prog w = .ok (.agg cs.toArray) w := by
  simp only [results, hres]
  have hp' : tmps[p]?.getD undef = .pointer (some ⟨b, 0, none⟩) := by simpa using hp
  simp [hp', asAddr, run_loadVar_mid w b 0 ty cs d hc hu hd hi]
theorem zeroS : (Try.prog.info? 67).map (fun i => (i.zero, i.size)) = some (some (.agg (chi 40 fun _ => false).toArray), 40) := by kernel_rfl
/-- A new array of flags, none set. -/
theorem wpList_alloc_chi {w : World} {ops : Array Oper} {rest : List Oper} {o : Oper} {a : Act} {Q : Exit → Act → World → Prop} (hgd : o.guard = none) (t : TypeId) (ho : o.op = .alloc t) (n : Nat)
    (hz : (Try.prog.info? t).map (fun i => (i.zero, i.size)) = some (some (.agg (chi n fun _ => false).toArray), n))
    (h : wpList Try.prog ops Q rest (a.put o.dst (.pointer (some ⟨w.heap.size, 0, none⟩))) (w.alloc (.cells (chi n fun _ => false).toArray t))) : wpList Try.prog ops Q (o :: rest) a w :=
  wpList_plain hgd fun K hK => by
    have hz1 := (zero_of_info hz).1 w
    unfold Oper.wp execOp
    simp [ho, Instr.alloc, hz1, Sem.run_bind, newVar, go_sem]
    exact hK _ _ h
/-- May j come next behind step k? -/
def nxB (code : List Tx.Ins) (k j : Nat) : Bool := decide (j ∈ waysF (insF code k) k) && decide (j < code.length)
theorem way_in {i : Tx.Ins} {k j : Nat} : ((j : Int) ∈ waysI i k) ↔ j ∈ waysF i k := by
  unfold waysI
  simp only [List.mem_map]
  constructor
  · rintro ⟨a, h, e⟩; rwa [show j = a by omega]
  · exact fun h => ⟨j, h, rfl⟩
theorem waysI_len (i : Tx.Ins) (k : Nat) : (waysI i k).length ≤ 2 := by
  unfold waysI waysF
  rw [List.length_map]
  split
  · simp
  · split
    · simp
    · split <;> simp
def partB (l : List Int) (m len j : Nat) : Bool := decide ((j : Int) ∈ l.take m) && decide (j < len)
theorem partB_step {l : List Int} {m : Nat} (hm : m < l.length) (len j : Nat) : (partB l m len j || (decide (l[m] = (j : Int)) && decide (j < len))) = partB l (m + 1) len j := by
  unfold partB
  rw [List.take_succ_eq_append_getElem hm]
  by_cases h1 : j < len
  · by_cases h2 : (j : Int) ∈ l.take m
    · simp only [h1, h2, decide_true, Bool.true_or, Bool.and_true]; symm; simp only [decide_eq_true_eq]; exact List.mem_append_left _ h2
    · by_cases h3 : l[m] = (j : Int)
      · simp [h1, h2, h3]
      · simp only [h1, h2, h3, decide_true, decide_false, Bool.false_or, Bool.and_true]; symm; simp only [decide_eq_false_iff_not, List.mem_append, List.mem_singleton, not_or]; exact ⟨h2, fun e => h3 e.symm⟩
  · simp [h1]
theorem ins_is {code : List Tx.Ins} {k : Nat} (hk : k < code.length) : code[k]? = some (insF code k) := by unfold insF; rw [List.getD_eq_getElem?_getD, List.getElem?_eq_getElem hk]; rfl
theorem jump_in {code : List Tx.Ins} (hok : Lay.codeOk code = true) {k : Nat} (hk : k < code.length) (h : (insF code k).1 = 11 ∨ (insF code k).1 = 12) : 0 ≤ (insF code k).2.1 ∧ (insF code k).2.1 < (code.length : Int) :=
  Lay.ok_jump hok (ins_is hk) (by rcases h with h | h <;> simp [Lay.jumpB, h])

set_option maxRecDepth 100000 in
set_option maxHeartbeats 2000000 in
theorem nextsIn_at (g yc : Nat) (code : List Tx.Ins) (hok : Lay.codeOk code = true) (k : Nat) (hk : k < code.length) (w : World) (hrow : Row w g 0 code) :
    Calls Try.prog 39 #[.slice (some ⟨g, 0, none⟩) code.length yc, .int .i64 k] w fun e w' => e = .returned (.agg (chi 40 (nxB code k)).toArray) ∧ Below w.heap.size w w' := by
  have hl40 := (Lay.ok_len hok).2
  obtain ⟨d0, d1, d2⟩ := hrow k _ (ins_is hk)
  have h0 : (insF code k).1 = 11 ∨ (insF code k).1 = 12 → 0 ≤ (insF code k).2.1 := fun h => (jump_in hok hk h).1
  have HNX : Hid (nxB code k = fun j => decide (j ∈ waysF (insF code k) k) && decide (j < code.length)) := rfl
  generalize insF code k = ins at *
  simp only [Nat.zero_add] at d0 d1 d2
  have hki : (k : Int) < (code.length : Int) := by omega
  obtain ⟨W, hW⟩ : ∃ W, W = (w.alloc (.cells (chi 40 fun _ => false).toArray 67)).alloc (.cells (chi 40 fun _ => false).toArray 67) := ⟨_, rfl⟩
  have hwW : Below w.heap.size w W := by rw [hW]; exact ((Below.refl _ _).alloc (Nat.le_refl _) _).alloc (by simp) _
  have lg := cell_lt d0
  have e0 := (hwW.cell (p := ⟨g, k * 3, none⟩) lg).trans d0
  have e1 := (hwW.cell (p := ⟨g, k * 3 + 1, none⟩) lg).trans d1
  have e2 := (hwW.cell (p := ⟨g, k * 3 + 2, none⟩) lg).trans d2
  rw [hW] at e0 e1 e2
  have C0 : Hid (Cells W w.heap.size (chi 40 fun _ => false)) := by
    show Cells _ _ _
    rw [hW]; exact (Cells.new w _ rfl _ _).alloc _
  have C1 : Hid (Cells W (w.heap.size + 1) (chi 40 fun _ => false)) := by
    show Cells _ _ _
    rw [hW]; exact Cells.new (w.alloc _) _ (by simp) _ _
  have HW : Hid (W = (w.alloc (.cells (chi 40 fun _ => false).toArray 67)).alloc (.cells (chi 40 fun _ => false).toArray 67)) := hW
  clear hW d0 d1 d2 hrow
  go_enter Try.func39, Try.ntmps39
  go_wp2_with (with_reducible refine wpList_alloc_chi rfl 67 rfl 40 zeroS ?_)
  rw [← HW.out]
  clear HW e0 e1 e2
  refine (waysFrom_at ins k (by omega) h0 W).mono ?_
  rintro e w1 ⟨v, rfl, hsi, hb1⟩
  have hw1 : Below w.heap.size w w1 := below_over hwW hb1
  have HS1 : Hid (SI true W.heap.size w1 v (waysI ins k)) := hsi
  obtain ⟨z, cz, rfl⟩ := hsi.form
  have C0' : Hid (Cells w1 w.heap.size (chi 40 fun _ => false)) := C0.out.on hb1
  have C1' : Hid (Cells w1 (w.heap.size + 1) (chi 40 fun _ => false)) := C1.out.on hb1
  have HWZ : Hid (w.heap.size + 2 ≤ W.heap.size) := by
    have h1 := C1.out 0 _ (chi_at _ (by decide))
    have := cell_lt h1.1
    show _ ≤ _
    simp at this; omega
  have HL2 : (waysI ins k).length ≤ 2 := waysI_len ins k
  have HIN : Hid (∀ j : Nat, (j : Int) ∈ waysI ins k ↔ j ∈ waysF ins k) := fun j => way_in
  generalize waysI ins k = l at *
  clear hsi hb1 hwW C0 C1 h0
  go_wp2_with fail
  go_loopw [15] (fun i wr => ∃ m : Nat, m ≤ l.length ∧ i = .int .i64 m ∧ Hid (SI true W.heap.size wr (.slice z l.length cz) l) ∧ Hid (Cells wr w.heap.size (chi 40 fun _ => false)) ∧ Hid (Cells wr (w.heap.size + 1) (chi 40 (partB l m code.length))) ∧ Below w.heap.size w wr) (fun i _ => l.length - (intOf i).toNat)
  case atStart =>
    refine ⟨0, Nat.zero_le _, rfl, HS1.out, C0'.out, ?_, hw1⟩
    show Cells _ _ _
    rw [chi_congr (Q := fun _ => false) (fun j hj => by simp [partB])]
    exact C1'.out
  case round =>
    clear HS1 C0' C1' hw1
    obtain ⟨m, hm, rfl, hs, hc0, hc1, hb⟩ := hrel
    by_cases hlt : m < l.length
    · obtain ⟨bz, oz, rfl, hB, c0⟩ := Arr.get hs.out hlt
      have c0' : wr.cell? ⟨bz, oz + m, none⟩ = some (.int .i64 l[m]) := by have h := c0; unfold IntAt at h; rw [Nat.mul_one] at h; exact h
      have HP : Hid (∀ j, (partB l m code.length j || (decide (l[m] = (j : Int)) && decide (j < code.length))) = partB l (m + 1) code.length j) := fun j => partB_step hlt _ j
      generalize l[m] = x at *
      have hmi : (m : Int) < (l.length : Int) := by omega
      clear c0
      go_wp2_with fail
      refine (addIn_at (some ⟨g, 0, none⟩) yc code.length hl40 x (w.heap.size + 1) (partB l m code.length) wr hc1.out).mono ?_
      rintro e w2 ⟨rfl, hc2, ho⟩
      have hb2 : Below w.heap.size w w2 := hb.trans (ho.below (Nat.le_succ _))
      have HC2 : Hid (Cells w2 (w.heap.size + 1) (chi 40 (partB l (m + 1) code.length))) := by
        show Cells _ _ _
        rw [← chi_congr (fun j hj => HP.out j)]
        exact hc2
      have HC0 : Hid (Cells w2 w.heap.size (chi 40 fun _ => false)) := fun i x hx => by
        obtain ⟨h1, h2⟩ := hc0.out i x hx
        have hbk := ho.block w.heap.size (by omega)
        exact ⟨(World.cell?_of_block (w := wr) hbk).trans h1, (World.frozen?_of_block (w := wr) hbk).trans h2⟩
      have HS2 : Hid (SI true W.heap.size w2 (.slice (some ⟨bz, oz, none⟩) l.length cz) l) := SI.on hs.out ⟨by rw [ho.size]; exact Nat.le_refl _, fun q hq _ => ho.block q (by have := HWZ.out; omega)⟩
      clear hc2 ho hc0 hc1 hs HP hb
      go_wp2
      go_roundw
      case rel => exact ⟨m + 1, by omega, by go_num, HS2.out, HC0.out, HC2.out, hb2⟩
      case measure => simp [intOf]; omega
    · have HE : Hid (chi 40 (partB l m code.length) = chi 40 (nxB code k)) := by
        show _ = _
        rw [HNX.out]
        refine chi_congr fun j hj => ?_
        unfold partB
        rw [List.take_of_length_le (by omega)]
        congr 1
        exact decide_eq_decide.2 (HIN.out j)
      have HC1 : Hid (Cells wr (w.heap.size + 1) (chi 40 (nxB code k))) := by show Cells _ _ _; rw [← HE.out]; exact hc1.out
      have HC2 : Hid (Cells (wr.setCells w.heap.size 0 (chi 40 (nxB code k))) w.heap.size (chi 40 (nxB code k))) := hc0.out.put (by rw [chi_len, chi_len])
      clear hc1 HE
      have HCL : Hid ((chi 40 (nxB code k)).length = 40) := chi_len _ _
      have HCO : Hid (∀ v ∈ chi 40 (nxB code k), v.oneCell' = true) := chi_one _ _
      have hmi : ¬ (m : Int) < (l.length : Int) := by omega
      have hb2 : Below w.heap.size w (wr.setCells w.heap.size 0 (chi 40 (nxB code k))) := below_setCells (Nat.le_refl _) _ _ hb
      clear hb
      generalize hcs : chi 40 (nxB code k) = cs at *
      have HCS : Hid (chi 40 (nxB code k) = cs) := hcs
      clear hcs
      go_wp2_with (first
        | (with_reducible refine wpList_load_mid rfl 67 (.tmp 5) rfl (w.heap.size + 1) 0 (by simp [Act.eval, Act.put]) cs _ HC1.out.range Try.underlying67 rfl (by rw [infoS, HCL.out]) ?_)
        | (with_reducible refine wpList_store_mid rfl 67 (.tmp 4) (.tmp 23) rfl w.heap.size 0 cs.toArray (by simp [Act.eval, Act.put]) (by simp [Act.eval, Act.put]) (hc0.out.there (by rw [chi_len]; simpa using HCL.out)) (by rw [infoS]; simpa using HCL.out.symm) (all_oneCell_toArray HCO.out) ?_))
      (try simp only [Exit.inBlock, Exit.then])
      refine bodyPost_ret (ret_cell rfl rfl HC2.out.range Try.underlying67 rfl (by rw [infoS, HCL.out])) rfl ?_
      exact ⟨by rw [HCS.out], hb2⟩
end Pg
end Go.Proofs.Ytffkkhaiedhaiaa

/- Contracts: both sides' Nexts. -/
namespace Go.Proofs.Ytffkkhaiedhaiaa
namespace Pg
open Go.ChangeShapes Go.WideShapes Go.ChangeAt Go.RowKit St

theorem nextsF_rise (code : List Tx.Ins) (k : Nat) : Rise (nextsF code k) := by
  unfold nextsF
  dsimp only
  have h : ∀ b : Bool, Rise (if b = true then [(k : Int) + 1] else []) := fun b => by cases b <;> simp
  by_cases hc : (insF code k).1 ≠ 11 ∧ (insF code k).1 ≠ 20 ∧ k + 1 < code.length
  · rw [if_pos hc]
    split
    · exact putL_rise (by simp) _
    · simp
  · rw [if_neg hc]
    split
    · exact putL_rise (by simp) _
    · simp
theorem nextsF_mem {code : List Tx.Ins} (hok : Lay.codeOk code = true) {k : Nat} (hk : k < code.length) (x : Int) : x ∈ nextsF code k ↔ ∃ j : Nat, nxB code k j = true ∧ x = (j : Int) := by
  have hj := fun h => jump_in hok hk h
  unfold nextsF nxB waysF
  dsimp only
  generalize insF code k = i at *
  obtain ⟨op, A, B⟩ := i
  dsimp only at *
  by_cases h20 : op = 20
  · subst h20; simp
  · by_cases h11 : op = 11
    · subst h11
      obtain ⟨a0, a1⟩ := hj (.inl rfl)
      simp [mem_putL]
      constructor
      · rintro rfl; exact ⟨x.toNat, by omega, by omega⟩
      · rintro ⟨j, h1, h2⟩; omega
    · by_cases h12 : op = 12
      · subst h12
        obtain ⟨a0, a1⟩ := hj (.inr rfl)
        by_cases hl : k + 1 < code.length
        · simp [mem_putL, hl]
          constructor
          · rintro (rfl | rfl)
            · exact ⟨k + 1, ⟨.inr rfl, hl⟩, by omega⟩
            · exact ⟨x.toNat, ⟨.inl rfl, by omega⟩, by omega⟩
          · rintro ⟨j, ⟨h1 | h1, h2⟩, h3⟩
            · right; omega
            · left; omega
        · simp [mem_putL, hl]
          constructor
          · rintro rfl; exact ⟨x.toNat, ⟨.inl rfl, by omega⟩, by omega⟩
          · rintro ⟨j, ⟨h1 | h1, h2⟩, h3⟩ <;> omega
      · by_cases hl : k + 1 < code.length
        · simp [h20, h11, h12, hl]
          constructor
          · rintro rfl; exact ⟨k + 1, ⟨rfl, hl⟩, by omega⟩
          · rintro ⟨j, ⟨h1, h2⟩, h3⟩; omega
        · simp [h20, h11, h12, hl]
theorem nexts_ris {code : List Tx.Ins} (hok : Lay.codeOk code = true) {k : Nat} (hk : k < code.length) : nextsF code k = risL (nxB code k) 40 := by
  have hl := (Lay.ok_len hok).2
  refine rise_ext (nextsF_rise code k) (risL_rise _ _) fun x => ?_
  rw [nextsF_mem hok hk, risL_mem]
  constructor
  · rintro ⟨j, h, e⟩
    refine ⟨j, ?_, h, e⟩
    unfold nxB at h
    simp only [Bool.and_eq_true, decide_eq_true_eq] at h
    omega
  · rintro ⟨j, _, h, e⟩; exact ⟨j, h, e⟩

end Pg
end Go.Proofs.Ytffkkhaiedhaiaa

/- Contracts: leaders, on both sides. -/
namespace Go.Proofs.Ytffkkhaiedhaiaa
namespace Pg
open Go.ChangeShapes Go.WideShapes Go.ChangeAt Go.RowKit St

theorem Cells.only {b k : Nat} {u v : World} {vs : List Value} (h : Cells u k vs) (ho : Only b u v) (hne : k ≠ b) : Cells v k vs := fun i x hx => by
  obtain ⟨h1, h2⟩ := h i x hx
  have hbk := ho.block k hne
  exact ⟨(World.cell?_of_block (w := u) hbk).trans h1, (World.frozen?_of_block (w := u) hbk).trans h2⟩
theorem Lst.form {w : World} {v : Value} {l : List Int} (h : Lst w v l) : ∃ g c, v = .slice (some ⟨g, 0, none⟩) l.length c := by
  obtain ⟨g, c, hv, _⟩ := h
  exact ⟨g, c, hv⟩
theorem Cells.lt {k : Nat} {u : World} {x : Value} {vs : List Value} (h : Cells u k (x :: vs)) : k < u.heap.size := cell_lt (h 0 x rfl).1
theorem Cells.lt' {k n : Nat} {u : World} {P : Nat → Bool} (h : Cells u k (chi n P)) (hn : 0 < n) : k < u.heap.size := cell_lt (h 0 _ (chi_at P hn)).1

end Pg
end Go.Proofs.Ytffkkhaiedhaiaa
