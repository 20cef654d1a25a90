/- Contracts: the set of what may come next, two sets as one, and both sides' Nexts. -/
import Derived.Test.YtffkkhaiedhaiaaJNx1
import Derived.Deep.WholeRow
namespace Go.Proofs.Ytffkkhaiedhaiaa
namespace Pg
open Go.ChangeShapes Go.WideShapes Go.ChangeAt Go.RowKit St

theorem below_setCells {B b : Nat} (hb : B ≤ b) : ∀ (vs : List Value) (o : Nat) {u v : World}, Below B u v → Below B u (v.setCells b o vs)
  | [], _, _, _, h => h
  | _ :: r, o, _, _, h => below_setCells hb r (o + 1) (h.setCell hb _)
theorem size_setCells {b : Nat} : ∀ (vs : List Value) (o : Nat) (v : World), (v.setCells b o vs).heap.size = v.heap.size
  | [], _, _ => rfl
  | _ :: r, o, v => by rw [World.setCells, size_setCells r (o + 1)]; simp
/-- A result that lies in a variable of its own: an array. -/
theorem ret_cell {fn : Func} {p ty : Nat} (hres : fn.results = #[.cell p ty]) {tmps : Array Value} {w : World} {b : Nat} (hp : tmps.getD p undef = .pointer (some ⟨b, 0, none⟩)) {cs : List Value} (hc : w.rangeAt b 0 cs) {d : TypeDesc} (hu : Try.prog.underlying ty = some d) (hd : d.isRow = true) (hi : (Try.prog.info? ty).map (·.size) = some cs.length) :
    (results fn tmps).run Try.prog w = .ok (.agg cs.toArray) w := by
  simp only [results, hres]
  have hp' : tmps[p]?.getD undef = .pointer (some ⟨b, 0, none⟩) := by simpa using hp
  simp [hp', asAddr, run_loadVar_mid w b 0 ty cs d hc hu hd hi]
theorem zeroS : (Try.prog.info? 67).map (fun i => (i.zero, i.size)) = some (some (.agg (chi 40 fun _ => false).toArray), 40) := by kernel_rfl
/-- A new array of flags, none set. -/
theorem wpList_alloc_chi {w : World} {ops : Array Oper} {rest : List Oper} {o : Oper} {a : Act} {Q : Exit → Act → World → Prop} (hgd : o.guard = none) (t : TypeId) (ho : o.op = .alloc t) (n : Nat)
    (hz : (Try.prog.info? t).map (fun i => (i.zero, i.size)) = some (some (.agg (chi n fun _ => false).toArray), n))
    (h : wpList Try.prog ops Q rest (a.put o.dst (.pointer (some ⟨w.heap.size, 0, none⟩))) (w.alloc (.cells (chi n fun _ => false).toArray t))) : wpList Try.prog ops Q (o :: rest) a w :=
  wpList_plain hgd fun K hK => by
    have hz1 := (zero_of_info hz).1 w
    unfold Oper.wp execOp
    simp [ho, Instr.alloc, hz1, Sem.run_bind, newVar, go_sem]
    exact hK _ _ h
/-- A new array of flags, the first one set. -/
theorem wpList_build_chi {w : World} {ops : Array Oper} {rest : List Oper} {o : Oper} {a : Act} {Q : Exit → Act → World → Prop} (hgd : o.guard = none) (t : TypeId) (ho : o.op = .build t #[(0, .const (.bool true))]) (n : Nat) (hn : 0 < n)
    (hu : Try.prog.underlying t = some (.array n 4)) (hz : (Try.prog.info? t).map (fun i => (i.zero, i.size)) = some (some (.agg (chi n fun _ => false).toArray), n))
    (h : wpList Try.prog ops Q rest (a.put o.dst (.agg (chi n fun j => decide (j = 0)).toArray)) w) : wpList Try.prog ops Q (o :: rest) a w :=
  wpList_plain hgd fun K hK => by
    have hz1 := (zero_of_info hz).1 w
    obtain ⟨i0, hi, _, hz1', _⟩ := info_parts infoB
    unfold Oper.wp execOp
    simp [ho, Instr.build, hz1, Sem.run_bind, run_underlying hu]
    have hsz : ¬ ((chi n fun _ => false).toArray.size < 1) := by simp [chi_len]; omega
    have hfl : Instr.fill (fun i => some (i, 1)) (Value.agg (chi n fun _ => false).toArray).cells [(0, a.eval (Operand.const (.bool true)))] = some (chi n fun j => decide (j = 0)).toArray := by
      have h1 := chi_set (n := n) (fun _ => false) 0 true
      have h2 : (chi n fun j => if j = 0 then true else false) = chi n fun j => decide (j = 0) := chi_congr fun j _ => by by_cases e : j = 0 <;> simp [e]
      rw [h2] at h1
      rw [← h1]
      simp [Instr.fill, Value.cells, Act.eval, chi_len]
      omega
    rw [hfl]
    simpa [Result.andThen, Oper.upon] using hK _ _ h

/-- May j come next behind step k? -/
def nxB (code : List Tx.Ins) (k j : Nat) : Bool := decide (j ∈ waysF (insF code k) k) && decide (j < code.length)
theorem way_in {i : Tx.Ins} {k j : Nat} : ((j : Int) ∈ waysI i k) ↔ j ∈ waysF i k := by
  unfold waysI
  simp only [List.mem_map]
  constructor
  · rintro ⟨a, h, e⟩; rwa [show j = a by omega]
  · exact fun h => ⟨j, h, rfl⟩
theorem waysI_len (i : Tx.Ins) (k : Nat) : (waysI i k).length ≤ 2 := by
  unfold waysI waysF
  rw [List.length_map]
  split
  · simp
  · split
    · simp
    · split <;> simp
def partB (l : List Int) (m len j : Nat) : Bool := decide ((j : Int) ∈ l.take m) && decide (j < len)
theorem partB_step {l : List Int} {m : Nat} (hm : m < l.length) (len j : Nat) : (partB l m len j || (decide (l[m] = (j : Int)) && decide (j < len))) = partB l (m + 1) len j := by
  unfold partB
  rw [List.take_succ_eq_append_getElem hm]
  by_cases h1 : j < len
  · by_cases h2 : (j : Int) ∈ l.take m
    · simp only [h1, h2, decide_true, Bool.true_or, Bool.and_true]; symm; simp only [decide_eq_true_eq]; exact List.mem_append_left _ h2
    · by_cases h3 : l[m] = (j : Int)
      · simp [h1, h2, h3]
      · simp only [h1, h2, h3, decide_true, decide_false, Bool.false_or, Bool.and_true]; symm; simp only [decide_eq_false_iff_not, List.mem_append, List.mem_singleton, not_or]; exact ⟨h2, fun e => h3 e.symm⟩
  · simp [h1]
theorem ins_is {code : List Tx.Ins} {k : Nat} (hk : k < code.length) : code[k]? = some (insF code k) := by unfold insF; rw [List.getD_eq_getElem?_getD, List.getElem?_eq_getElem hk]; rfl
theorem jump_in {code : List Tx.Ins} (hok : Lay.codeOk code = true) {k : Nat} (hk : k < code.length) (h : (insF code k).1 = 11 ∨ (insF code k).1 = 12) : 0 ≤ (insF code k).2.1 ∧ (insF code k).2.1 < (code.length : Int) :=
  Lay.ok_jump hok (ins_is hk) (by rcases h with h | h <;> simp [Lay.jumpB, h])

set_option maxRecDepth 100000 in
set_option maxHeartbeats 2000000 in
theorem nextsIn_at (g yc : Nat) (code : List Tx.Ins) (hok : Lay.codeOk code = true) (k : Nat) (hk : k < code.length) (w : World) (hrow : Row w g 0 code) :
    Calls Try.prog 39 #[.slice (some ⟨g, 0, none⟩) code.length yc, .int .i64 k] w fun e w' => e = .returned (.agg (chi 40 (nxB code k)).toArray) ∧ Below w.heap.size w w' := by
  have hl40 := (Lay.ok_len hok).2
  obtain ⟨d0, d1, d2⟩ := hrow k _ (ins_is hk)
  have h0 : (insF code k).1 = 11 ∨ (insF code k).1 = 12 → 0 ≤ (insF code k).2.1 := fun h => (jump_in hok hk h).1
  have HNX : Hid (nxB code k = fun j => decide (j ∈ waysF (insF code k) k) && decide (j < code.length)) := rfl
  generalize insF code k = ins at *
  simp only [Nat.zero_add] at d0 d1 d2
  have hki : (k : Int) < (code.length : Int) := by omega
  obtain ⟨W, hW⟩ : ∃ W, W = (w.alloc (.cells (chi 40 fun _ => false).toArray 67)).alloc (.cells (chi 40 fun _ => false).toArray 67) := ⟨_, rfl⟩
  have hwW : Below w.heap.size w W := by rw [hW]; exact ((Below.refl _ _).alloc (Nat.le_refl _) _).alloc (by simp) _
  have lg := cell_lt d0
  have e0 := (hwW.cell (p := ⟨g, k * 3, none⟩) lg).trans d0
  have e1 := (hwW.cell (p := ⟨g, k * 3 + 1, none⟩) lg).trans d1
  have e2 := (hwW.cell (p := ⟨g, k * 3 + 2, none⟩) lg).trans d2
  rw [hW] at e0 e1 e2
  have C0 : Hid (Cells W w.heap.size (chi 40 fun _ => false)) := by
    show Cells _ _ _
    rw [hW]; exact (Cells.new w _ rfl _ _).alloc _
  have C1 : Hid (Cells W (w.heap.size + 1) (chi 40 fun _ => false)) := by
    show Cells _ _ _
    rw [hW]; exact Cells.new (w.alloc _) _ (by simp) _ _
  have HW : Hid (W = (w.alloc (.cells (chi 40 fun _ => false).toArray 67)).alloc (.cells (chi 40 fun _ => false).toArray 67)) := hW
  clear hW d0 d1 d2 hrow
  go_enter Try.func39, Try.ntmps39
  go_wp2_with (with_reducible refine wpList_alloc_chi rfl 67 rfl 40 zeroS ?_)
  rw [← HW.out]
  clear HW e0 e1 e2
  refine (waysFrom_at ins k (by omega) h0 W).mono ?_
  rintro e w1 ⟨v, rfl, hsi, hb1⟩
  have hw1 : Below w.heap.size w w1 := below_over hwW hb1
  have HS1 : Hid (SI true W.heap.size w1 v (waysI ins k)) := hsi
  obtain ⟨z, cz, rfl⟩ := hsi.form
  have C0' : Hid (Cells w1 w.heap.size (chi 40 fun _ => false)) := C0.out.on hb1
  have C1' : Hid (Cells w1 (w.heap.size + 1) (chi 40 fun _ => false)) := C1.out.on hb1
  have HWZ : Hid (w.heap.size + 2 ≤ W.heap.size) := by
    have h1 := C1.out 0 _ (chi_at _ (by decide))
    have := cell_lt h1.1
    show _ ≤ _
    simp at this; omega
  have HL2 : (waysI ins k).length ≤ 2 := waysI_len ins k
  have HIN : Hid (∀ j : Nat, (j : Int) ∈ waysI ins k ↔ j ∈ waysF ins k) := fun j => way_in
  generalize waysI ins k = l at *
  clear hsi hb1 hwW C0 C1 h0
  go_wp2_with fail
  go_loopw [15] (fun i wr => ∃ m : Nat, m ≤ l.length ∧ i = .int .i64 m ∧ Hid (SI true W.heap.size wr (.slice z l.length cz) l) ∧ Hid (Cells wr w.heap.size (chi 40 fun _ => false)) ∧ Hid (Cells wr (w.heap.size + 1) (chi 40 (partB l m code.length))) ∧ Below w.heap.size w wr) (fun i _ => l.length - (intOf i).toNat)
  case atStart =>
    refine ⟨0, Nat.zero_le _, rfl, HS1.out, C0'.out, ?_, hw1⟩
    show Cells _ _ _
    rw [chi_congr (Q := fun _ => false) (fun j hj => by simp [partB])]
    exact C1'.out
  case round =>
    clear HS1 C0' C1' hw1
    obtain ⟨m, hm, rfl, hs, hc0, hc1, hb⟩ := hrel
    by_cases hlt : m < l.length
    · obtain ⟨bz, oz, rfl, hB, c0⟩ := Arr.get hs.out hlt
      have c0' : wr.cell? ⟨bz, oz + m, none⟩ = some (.int .i64 l[m]) := by have h := c0; unfold IntAt at h; rw [Nat.mul_one] at h; exact h
      have HP : Hid (∀ j, (partB l m code.length j || (decide (l[m] = (j : Int)) && decide (j < code.length))) = partB l (m + 1) code.length j) := fun j => partB_step hlt _ j
      generalize l[m] = x at *
      have hmi : (m : Int) < (l.length : Int) := by omega
      clear c0
      go_wp2_with fail
      refine (addIn_at (some ⟨g, 0, none⟩) yc code.length hl40 x (w.heap.size + 1) (partB l m code.length) wr hc1.out).mono ?_
      rintro e w2 ⟨rfl, hc2, ho⟩
      have hb2 : Below w.heap.size w w2 := hb.trans (ho.below (Nat.le_succ _))
      have HC2 : Hid (Cells w2 (w.heap.size + 1) (chi 40 (partB l (m + 1) code.length))) := by
        show Cells _ _ _
        rw [← chi_congr (fun j hj => HP.out j)]
        exact hc2
      have HC0 : Hid (Cells w2 w.heap.size (chi 40 fun _ => false)) := fun i x hx => by
        obtain ⟨h1, h2⟩ := hc0.out i x hx
        have hbk := ho.block w.heap.size (by omega)
        exact ⟨(World.cell?_of_block (w := wr) hbk).trans h1, (World.frozen?_of_block (w := wr) hbk).trans h2⟩
      have HS2 : Hid (SI true W.heap.size w2 (.slice (some ⟨bz, oz, none⟩) l.length cz) l) := SI.on hs.out ⟨by rw [ho.size]; exact Nat.le_refl _, fun q hq _ => ho.block q (by have := HWZ.out; omega)⟩
      clear hc2 ho hc0 hc1 hs HP hb
      go_wp2
      go_roundw
      case rel => exact ⟨m + 1, by omega, by go_num, HS2.out, HC0.out, HC2.out, hb2⟩
      case measure => simp [intOf]; omega
    · have HE : Hid (chi 40 (partB l m code.length) = chi 40 (nxB code k)) := by
        show _ = _
        rw [HNX.out]
        refine chi_congr fun j hj => ?_
        unfold partB
        rw [List.take_of_length_le (by omega)]
        congr 1
        exact decide_eq_decide.2 (HIN.out j)
      have HC1 : Hid (Cells wr (w.heap.size + 1) (chi 40 (nxB code k))) := by show Cells _ _ _; rw [← HE.out]; exact hc1.out
      have HC2 : Hid (Cells (wr.setCells w.heap.size 0 (chi 40 (nxB code k))) w.heap.size (chi 40 (nxB code k))) := hc0.out.put (by rw [chi_len, chi_len])
      clear hc1 HE
      have HCL : Hid ((chi 40 (nxB code k)).length = 40) := chi_len _ _
      have HCO : Hid (∀ v ∈ chi 40 (nxB code k), v.oneCell' = true) := chi_one _ _
      have hmi : ¬ (m : Int) < (l.length : Int) := by omega
      have hb2 : Below w.heap.size w (wr.setCells w.heap.size 0 (chi 40 (nxB code k))) := below_setCells (Nat.le_refl _) _ _ hb
      clear hb
      generalize hcs : chi 40 (nxB code k) = cs at *
      have HCS : Hid (chi 40 (nxB code k) = cs) := hcs
      clear hcs
      go_wp2_with (first
        | (with_reducible refine wpList_load_mid rfl 67 (.tmp 5) rfl (w.heap.size + 1) 0 (by simp [Act.eval, Act.put]) cs _ HC1.out.range Try.underlying67 rfl (by rw [infoS, HCL.out]) ?_)
        | (with_reducible refine wpList_store_mid rfl 67 (.tmp 4) (.tmp 23) rfl w.heap.size 0 cs.toArray (by simp [Act.eval, Act.put]) (by simp [Act.eval, Act.put]) (hc0.out.there (by rw [chi_len]; simpa using HCL.out)) (by rw [infoS]; simpa using HCL.out.symm) (all_oneCell_toArray HCO.out) ?_))
      (try simp only [Exit.inBlock, Exit.then])
      refine bodyPost_ret (ret_cell rfl rfl HC2.out.range Try.underlying67 rfl (by rw [infoS, HCL.out])) rfl ?_
      exact ⟨by rw [HCS.out], hb2⟩
set_option maxRecDepth 100000 in
set_option maxHeartbeats 2000000 in
theorem withS_at (P Q : Nat → Bool) (w : World) :
    Calls Try.prog 74 #[.agg (chi 40 P).toArray, .agg (chi 40 Q).toArray] w fun e w' => e = .returned (.agg (chi 40 fun j => P j || Q j).toArray) ∧ Below w.heap.size w w' := by
  obtain ⟨W, hW⟩ : ∃ W, W = ((w.alloc (.cells (chi 40 P).toArray 67)).alloc (.cells (chi 40 Q).toArray 67)).alloc (.cells (chi 40 fun _ => false).toArray 67) := ⟨_, rfl⟩
  have hwW : Below w.heap.size w W := by rw [hW]; exact (((Below.refl _ _).alloc (Nat.le_refl _) _).alloc (by simp) _).alloc (by simp; omega) _
  have C0 : Hid (Cells W w.heap.size (chi 40 P)) := by show Cells _ _ _; rw [hW]; exact ((Cells.new w _ rfl _ _).alloc _).alloc _
  have C1 : Hid (Cells W (w.heap.size + 1) (chi 40 Q)) := by show Cells _ _ _; rw [hW]; exact (Cells.new (w.alloc _) _ (by simp) _ _).alloc _
  have C2 : Hid (Cells W (w.heap.size + 1 + 1) (chi 40 fun _ => false)) := by show Cells _ _ _; rw [hW]; exact Cells.new ((w.alloc _).alloc _) _ (by simp) _ _
  have C1' : Hid (Cells (((w.alloc (.cells (chi 40 P).toArray 67)).alloc (.cells (chi 40 Q).toArray 67)).alloc (.cells (chi 40 fun _ => false).toArray 67)) (w.heap.size + 1) (chi 40 Q)) := (Cells.new (w.alloc _) _ (by simp) _ _).alloc _
  have HW : Hid (W = ((w.alloc (.cells (chi 40 P).toArray 67)).alloc (.cells (chi 40 Q).toArray 67)).alloc (.cells (chi 40 fun _ => false).toArray 67)) := hW
  clear hW
  go_enter Try.func74, Try.ntmps74
  go_wp2_with (first
    | (with_reducible refine wpList_alloc_chi rfl 67 rfl 40 zeroS ?_)
    | (with_reducible refine wpList_load_mid rfl 67 (.tmp 3) rfl (w.heap.size + 1) 0 (by simp [Act.eval, Act.put]) (chi 40 Q) _ C1'.out.range Try.underlying67 rfl (by rw [infoS, chi_len]) ?_))
  rw [← HW.out]
  clear HW C1'
  go_loopw [8] (fun i wr => ∃ k : Nat, k ≤ 40 ∧ i = .int .i64 k ∧ Hid (Cells wr w.heap.size (chi 40 fun j => P j || (Q j && decide (j < k)))) ∧ Hid (Cells wr (w.heap.size + 1 + 1) (chi 40 fun _ => false)) ∧ Below w.heap.size w wr) (fun i _ => 40 - (intOf i).toNat)
  case atStart =>
    refine ⟨0, Nat.zero_le _, rfl, ?_, C2.out, hwW⟩
    show Cells _ _ _
    rw [chi_congr (Q := P) (fun j hj => by simp)]
    exact C0.out
  case round =>
    clear C0 C1 C2 hwW
    obtain ⟨k, hk, rfl, hc, hc2, hb⟩ := hrel
    by_cases hlt : k < 40
    · have hx := run_index_chi Try.underlying67 Q hlt wr
      have hki : (k : Int) < 40 := by omega
      obtain ⟨c0, f0⟩ := hc.out k _ (chi_at _ hlt)
      have hdk : decide (k < k) = false := by simp
      simp only [hdk, Bool.and_false, Bool.or_false] at c0
      have HC : Hid (∀ b, b = (P k || Q k) → Cells (wr.setCell ⟨w.heap.size, k, none⟩ (.bool b)) w.heap.size (chi 40 fun j => P j || (Q j && decide (j < k + 1)))) := fun b hb => by
        have h1 := hc.out.set k (.bool b)
        rw [chi_set] at h1
        rw [chi_congr (Q := fun j => if j = k then b else P j || (Q j && decide (j < k))) (fun j hj => by
          by_cases e : j = k
          · subst e; simp [hb]
          · have : decide (j < k + 1) = decide (j < k) := by rw [decide_eq_decide]; omega
            simp [e, this])]
        exact h1
      have HC2 : Hid (∀ b, Cells (wr.setCell ⟨w.heap.size, k, none⟩ (.bool b)) (w.heap.size + 1 + 1) (chi 40 fun _ => false)) := fun b => hc2.out.far _ _ (by simp; omega)
      have HB : Hid (∀ b, Below w.heap.size w (wr.setCell ⟨w.heap.size, k, none⟩ (.bool b))) := fun b => hb.setCell (Nat.le_refl _) _
      clear hc hc2 hdk
      cases hp : P k
      · rw [hp] at c0 HC
        clear hp
        generalize Q k = q at *
        go_wp2
        go_roundw
        case rel => exact ⟨k + 1, by omega, by go_num, HC.out _ (by simp), HC2.out _, HB.out _⟩
        case measure => simp [intOf]; omega
      · rw [hp] at c0 HC
        clear hp
        generalize Q k = q at *
        go_wp2
        go_roundw
        case rel => exact ⟨k + 1, by omega, by go_num, HC.out _ (by simp), HC2.out _, HB.out _⟩
        case measure => simp [intOf]; omega
    · have HC0 : Hid (Cells wr w.heap.size (chi 40 fun j => P j || Q j)) := by
        show Cells _ _ _
        rw [chi_congr (Q := fun j => P j || (Q j && decide (j < k))) (fun j hj => by
          have : decide (j < k) = true := by simp; omega
          rw [this, Bool.and_true])]
        exact hc.out
      have HC2 : Hid (Cells (wr.setCells (w.heap.size + 1 + 1) 0 (chi 40 fun j => P j || Q j)) (w.heap.size + 1 + 1) (chi 40 fun j => P j || Q j)) := hc2.out.put (by rw [chi_len, chi_len])
      have HCL : Hid ((chi 40 fun j => P j || Q j).length = 40) := chi_len _ _
      have HCO : Hid (∀ v ∈ (chi 40 fun j => P j || Q j), v.oneCell' = true) := chi_one _ _
      have hki : ¬ (k : Int) < 40 := by omega
      have hb2 : Below w.heap.size w (wr.setCells (w.heap.size + 1 + 1) 0 (chi 40 fun j => P j || Q j)) := below_setCells (by omega) _ _ hb
      clear hb hc
      generalize hcs : (chi 40 fun j => P j || Q j) = cs at *
      have HCS : Hid ((chi 40 fun j => P j || Q j) = cs) := hcs
      clear hcs
      go_wp2_with (first
        | (with_reducible refine wpList_load_mid rfl 67 (.tmp 2) rfl w.heap.size 0 (by simp [Act.eval, Act.put]) cs _ HC0.out.range Try.underlying67 rfl (by rw [infoS, HCL.out]) ?_)
        | (with_reducible refine wpList_store_mid rfl 67 (.tmp 4) (.tmp 21) rfl (w.heap.size + 1 + 1) 0 cs.toArray (by simp [Act.eval, Act.put]) (by simp [Act.eval, Act.put]) (hc2.out.there (by rw [chi_len]; simpa using HCL.out)) (by rw [infoS]; simpa using HCL.out.symm) (all_oneCell_toArray HCO.out) ?_))
      (try simp only [Exit.inBlock, Exit.then])
      refine bodyPost_ret (ret_cell rfl rfl HC2.out.range Try.underlying67 rfl (by rw [infoS, HCL.out])) rfl ?_
      exact ⟨by rw [HCS.out], hb2⟩
end Pg
end Go.Proofs.Ytffkkhaiedhaiaa

/- Contracts: both sides' Nexts. -/
namespace Go.Proofs.Ytffkkhaiedhaiaa
namespace Pg
open Go.ChangeShapes Go.WideShapes Go.ChangeAt Go.RowKit St

/-- Is it a place of code that is right? -/
def atB (l : List Tx.Ins) (n : Int) : Bool := Lay.codeOk l && (decide (0 ≤ n) && decide (n < (l.length : Int)))
def nexA (l : List Tx.Ins) (n : Int) : List Int := if atB l n then risL (nxB l n.toNat) 40 else []
theorem nexA_len (l : List Tx.Ins) (n : Int) : (nexA l n).length ≤ 41 := by
  unfold nexA
  split
  · have := risL_len (nxB l n.toNat) 40; omega
  · simp
theorem nextsF_rise (code : List Tx.Ins) (k : Nat) : Rise (nextsF code k) := by
  unfold nextsF
  dsimp only
  have h : ∀ b : Bool, Rise (if b = true then [(k : Int) + 1] else []) := fun b => by cases b <;> simp
  by_cases hc : (insF code k).1 ≠ 11 ∧ (insF code k).1 ≠ 20 ∧ k + 1 < code.length
  · rw [if_pos hc]
    split
    · exact putL_rise (by simp) _
    · simp
  · rw [if_neg hc]
    split
    · exact putL_rise (by simp) _
    · simp
theorem nextsF_mem {code : List Tx.Ins} (hok : Lay.codeOk code = true) {k : Nat} (hk : k < code.length) (x : Int) : x ∈ nextsF code k ↔ ∃ j : Nat, nxB code k j = true ∧ x = (j : Int) := by
  have hj := fun h => jump_in hok hk h
  unfold nextsF nxB waysF
  dsimp only
  generalize insF code k = i at *
  obtain ⟨op, A, B⟩ := i
  dsimp only at *
  by_cases h20 : op = 20
  · subst h20; simp
  · by_cases h11 : op = 11
    · subst h11
      obtain ⟨a0, a1⟩ := hj (.inl rfl)
      simp [mem_putL]
      constructor
      · rintro rfl; exact ⟨x.toNat, by omega, by omega⟩
      · rintro ⟨j, h1, h2⟩; omega
    · by_cases h12 : op = 12
      · subst h12
        obtain ⟨a0, a1⟩ := hj (.inr rfl)
        by_cases hl : k + 1 < code.length
        · simp [mem_putL, hl]
          constructor
          · rintro (rfl | rfl)
            · exact ⟨k + 1, ⟨.inr rfl, hl⟩, by omega⟩
            · exact ⟨x.toNat, ⟨.inl rfl, by omega⟩, by omega⟩
          · rintro ⟨j, ⟨h1 | h1, h2⟩, h3⟩
            · right; omega
            · left; omega
        · simp [mem_putL, hl]
          constructor
          · rintro rfl; exact ⟨x.toNat, ⟨.inl rfl, by omega⟩, by omega⟩
          · rintro ⟨j, ⟨h1 | h1, h2⟩, h3⟩ <;> omega
      · by_cases hl : k + 1 < code.length
        · simp [h20, h11, h12, hl]
          constructor
          · rintro rfl; exact ⟨k + 1, ⟨rfl, hl⟩, by omega⟩
          · rintro ⟨j, ⟨h1, h2⟩, h3⟩; omega
        · simp [h20, h11, h12, hl]
theorem nexts_ris {code : List Tx.Ins} (hok : Lay.codeOk code = true) {k : Nat} (hk : k < code.length) : nextsF code k = risL (nxB code k) 40 := by
  have hl := (Lay.ok_len hok).2
  refine rise_ext (nextsF_rise code k) (risL_rise _ _) fun x => ?_
  rw [nextsF_mem hok hk, risL_mem]
  constructor
  · rintro ⟨j, h, e⟩
    refine ⟨j, ?_, h, e⟩
    unfold nxB at h
    simp only [Bool.and_eq_true, decide_eq_true_eq] at h
    omega
  · rintro ⟨j, _, h, e⟩; exact ⟨j, h, e⟩

set_option maxRecDepth 100000 in
set_option maxHeartbeats 1000000 in
theorem implNexts (g cap : Nat) (l : List Tx.Ins) (n : Int) (hl : l.length ≤ 1048576) (w : World) (hr : Row w g 0 l) :
    Calls Try.prog 8 #[.slice (some ⟨g, 0, none⟩) l.length cap, .int .i64 n] w fun e w' => ∃ x, e = .returned x ∧ GInt w.heap.size w' x (nexA l n) ∧ Below w.heap.size w w' := by
  have HR : Hid (Row w g 0 l) := hr
  clear hr
  go_enter Try.func8, Try.ntmps8
  go_wp2_with fail
  refine (implCodeOk g cap l hl w HR.out).mono ?_
  rintro e w1 ⟨rfl, hb1⟩
  cases hok : Lay.codeOk l
  · have HE : Hid (nexA l n = []) := by show _ = _; simp [nexA, atB, hok]
    clear hok
    go_wp2
    go_ret
    exact ⟨_, rfl, by rw [HE.out]; exact ((grow_start w1).base' hb1.size).gint, hb1.alloc hb1.size _⟩
  · go_wp2_with fail
    refine (isBelow n l.length w1).mono ?_
    rintro e _ ⟨rfl, rfl⟩
    cases hat : (decide (0 ≤ n) && decide (n < (l.length : Int)))
    · have HE : Hid (nexA l n = []) := by show _ = _; simp only [nexA, atB, hok, hat]; rfl
      clear hok
      go_wp2
      go_ret
      exact ⟨_, rfl, by rw [HE.out]; exact ((grow_start w1).base' hb1.size).gint, hb1.alloc hb1.size _⟩
    · have HE : Hid (nexA l n = risL (nxB l n.toNat) 40) := by show _ = _; simp only [nexA, atB, hok, hat]; rfl
      simp only [Bool.and_eq_true, decide_eq_true_eq] at hat
      obtain ⟨k, rfl⟩ := Int.eq_ofNat_of_zero_le hat.1
      have hk : k < l.length := by omega
      rw [Int.toNat_natCast] at HE
      clear hat
      go_wp2_with fail
      refine (nextsIn_at g cap l hok k hk w1 (HR.out.on hb1)).mono ?_
      rintro e w2 ⟨rfl, hb2⟩
      have hw2 : Below w.heap.size w w2 := below_over hb1 hb2
      clear hb1 hb2
      go_wp2_with fail
      refine (rising_at (nxB l k) w2).mono ?_
      rintro e w3 ⟨v, rfl, hg, hb3⟩
      have hw3 : Below w.heap.size w w3 := below_over hw2 hb3
      have HG : Hid (Grow w.heap.size w3 v (risL (nxB l k) 40)) := hg.base' hw2.size
      clear hg hb3 hok
      go_wp2
      go_ret
      exact ⟨_, rfl, by rw [HE.out]; exact HG.out.gint, hw3⟩
set_option maxRecDepth 100000 in
set_option maxHeartbeats 1000000 in
theorem l9At_at (g cap : Nat) (l : List Tx.Ins) (n : Int) (hl : l.length ≤ 1048576) (w : World) (hr : Row w g 0 l) :
    Calls Try.prog 45 #[.slice (some ⟨g, 0, none⟩) l.length cap, .int .i64 n] w fun e w' => e = .returned (.bool (atB l n)) ∧ Below w.heap.size w w' := by
  have HR : Hid (Row w g 0 l) := hr
  clear hr
  go_enter Try.func45, Try.ntmps45
  go_wp2_with fail
  refine (specCodeOk g cap l hl w HR.out).mono ?_
  rintro e w1 ⟨rfl, hb1⟩
  cases hok : Lay.codeOk l
  · have HE : Hid (atB l n = false) := by show _ = _; simp [atB, hok]
    clear hok
    go_wp2
    go_ret
    exact ⟨retB HE.out.symm, hb1⟩
  · by_cases h0 : 0 ≤ n
    · have HE : Hid (atB l n = decide (n < (l.length : Int))) := by show _ = _; simp [atB, hok, h0]
      clear hok
      go_wp2
      go_ret
      exact ⟨retB HE.out.symm, hb1⟩
    · have HE : Hid (atB l n = false) := by show _ = _; simp [atB, hok, h0]
      clear hok
      go_wp2
      go_ret
      exact ⟨retB HE.out.symm, hb1⟩
set_option maxRecDepth 100000 in
set_option maxHeartbeats 1000000 in
theorem specNexts (g cap : Nat) (l : List Tx.Ins) (n : Int) (hl : l.length ≤ 1048576) (w : World) (hr : Row w g 0 l) :
    Calls Try.prog 15 #[.slice (some ⟨g, 0, none⟩) l.length cap, .int .i64 n] w fun e w' => ∃ x, e = .returned x ∧ Lst w' x (nexA l n) ∧ Below w.heap.size w w' := by
  have HR : Hid (Row w g 0 l) := hr
  clear hr
  go_enter Try.func15, Try.ntmps15
  go_wp2_with fail
  refine (l9At_at g cap l n hl w HR.out).mono ?_
  rintro e w1 ⟨rfl, hb1⟩
  cases hat : atB l n
  · have HE : Hid (nexA l n = []) := by show _ = _; simp [nexA, hat]
    clear hat
    go_wp2
    go_ret
    exact ⟨_, rfl, by rw [HE.out]; exact (grow_start w1).lst, hb1.alloc hb1.size _⟩
  · have HE : Hid (nexA l n = risL (nxB l n.toNat) 40) := by show _ = _; simp [nexA, hat]
    unfold atB at hat
    simp only [Bool.and_eq_true, decide_eq_true_eq] at hat
    obtain ⟨hok, h0, h1⟩ := hat
    obtain ⟨k, rfl⟩ := Int.eq_ofNat_of_zero_le h0
    have hk : k < l.length := by omega
    rw [Int.toNat_natCast, ← nexts_ris hok hk] at HE
    have h1000 : l.length ≤ 1000 := by have := (Lay.ok_len hok).2; omega
    go_wp2_with fail
    refine (l9Nexts_at g cap l h1000 k hk w1 (HR.out.on hb1)).mono ?_
    rintro e w2 ⟨v, rfl, hls, hb2⟩
    have hw2 : Below w.heap.size w w2 := below_over hb1 hb2
    have HL : Hid (Lst w2 v (nextsF l k)) := hls
    clear hb1 hb2 hls hok
    go_wp2
    go_ret
    exact ⟨_, rfl, by rw [HE.out]; exact HL.out, hw2⟩
end Pg
end Go.Proofs.Ytffkkhaiedhaiaa

/- Contracts: leaders, on both sides. -/
namespace Go.Proofs.Ytffkkhaiedhaiaa
namespace Pg
open Go.ChangeShapes Go.WideShapes Go.ChangeAt Go.RowKit St

theorem Cells.only {b k : Nat} {u v : World} {vs : List Value} (h : Cells u k vs) (ho : Only b u v) (hne : k ≠ b) : Cells v k vs := fun i x hx => by
  obtain ⟨h1, h2⟩ := h i x hx
  have hbk := ho.block k hne
  exact ⟨(World.cell?_of_block (w := u) hbk).trans h1, (World.frozen?_of_block (w := u) hbk).trans h2⟩
theorem Lst.form {w : World} {v : Value} {l : List Int} (h : Lst w v l) : ∃ g c, v = .slice (some ⟨g, 0, none⟩) l.length c := by
  obtain ⟨g, c, hv, _⟩ := h
  exact ⟨g, c, hv⟩
theorem Cells.lt {k : Nat} {u : World} {x : Value} {vs : List Value} (h : Cells u k (x :: vs)) : k < u.heap.size := cell_lt (h 0 x rfl).1
theorem Cells.lt' {k n : Nat} {u : World} {P : Nat → Bool} (h : Cells u k (chi n P)) (hn : 0 < n) : k < u.heap.size := cell_lt (h 0 _ (chi_at P hn)).1

/-- What step i makes a leader. -/
def endB (op : Int) : Bool := Lay.jumpB op || decide (op = 20)
def ld1 (code : List Tx.Ins) (i j : Nat) : Bool :=
  (Lay.jumpB (insF code i).1 && (decide ((insF code i).2.1 = (j : Int)) && decide (j < code.length))) || (endB (insF code i).1 && (decide ((i : Int) + 1 = (j : Int)) && decide (j < code.length)))
def ldB (code : List Tx.Ins) : Nat → Nat → Bool
  | 0, j => decide (j = 0)
  | k + 1, j => ldB code k j || ld1 code k j
def ldS (code : List Tx.Ins) (i : Nat) (l : List Int) : List Int :=
  let b := if Lay.jumpB (insF code i).1 then putL l (insF code i).2.1 else l
  if endB (insF code i).1 && decide (i + 1 < code.length) then putL b ((i : Int) + 1) else b
def ldL (code : List Tx.Ins) : Nat → List Int
  | 0 => [0]
  | k + 1 => ldS code k (ldL code k)
theorem ldL_rise (code : List Tx.Ins) : ∀ k, Rise (ldL code k)
  | 0 => by simp [ldL]
  | k + 1 => by
    have h := ldL_rise code k
    have h1 : Rise (if Lay.jumpB (insF code k).1 then putL (ldL code k) (insF code k).2.1 else ldL code k) := by split; exact putL_rise h _; exact h
    unfold ldL ldS
    dsimp only
    split
    · exact putL_rise h1 _
    · exact h1
theorem ldL_len (code : List Tx.Ins) : ∀ k, (ldL code k).length ≤ 2 * k + 1
  | 0 => by simp [ldL]
  | k + 1 => by
    have h := ldL_len code k
    have h1 : (if Lay.jumpB (insF code k).1 then putL (ldL code k) (insF code k).2.1 else ldL code k).length ≤ 2 * k + 2 := by
      split
      · have := putL_len (ldL code k) (insF code k).2.1; omega
      · omega
    unfold ldL ldS
    dsimp only
    split
    · have := putL_len (if Lay.jumpB (insF code k).1 then putL (ldL code k) (insF code k).2.1 else ldL code k) ((k : Int) + 1); omega
    · omega
theorem ldL_mem {code : List Tx.Ins} (hok : Lay.codeOk code = true) : ∀ k, k ≤ code.length → ∀ x, x ∈ ldL code k ↔ ∃ j : Nat, ldB code k j = true ∧ x = (j : Int)
  | 0, _, x => by
    simp only [ldL, ldB, List.mem_singleton, decide_eq_true_eq]
    constructor
    · rintro rfl; exact ⟨0, rfl, rfl⟩
    · rintro ⟨j, rfl, rfl⟩; rfl
  | k + 1, hk, x => by
    have ih := ldL_mem hok k (by omega) x
    have hj := fun h => jump_in hok (k := k) (by omega) h
    unfold ldL ldS ldB ld1
    dsimp only
    generalize insF code k = i at *
    obtain ⟨op, A, B⟩ := i
    dsimp only at *
    have hm : x ∈ (if Lay.jumpB op then putL (ldL code k) A else ldL code k) ↔ ∃ j : Nat, (ldB code k j || (Lay.jumpB op && (decide (A = (j : Int)) && decide (j < code.length)))) = true ∧ x = (j : Int) := by
      by_cases hjb : Lay.jumpB op = true
      · obtain ⟨a0, a1⟩ := hj (by unfold Lay.jumpB at hjb; simpa using hjb)
        rw [if_pos hjb, mem_putL, ih]
        simp only [hjb, Bool.true_and, Bool.or_eq_true, Bool.and_eq_true, decide_eq_true_eq]
        constructor
        · rintro (⟨j, h1, h2⟩ | rfl)
          · exact ⟨j, .inl h1, h2⟩
          · exact ⟨x.toNat, .inr ⟨by omega, by omega⟩, by omega⟩
        · rintro ⟨j, h1 | ⟨h1, h2⟩, h3⟩
          · exact .inl ⟨j, h1, h3⟩
          · right; omega
      · rw [if_neg hjb, ih]
        simp only [Bool.not_eq_true] at hjb
        simp only [hjb, Bool.false_and, Bool.or_false]
    by_cases he : (endB op && decide (k + 1 < code.length)) = true
    · rw [if_pos he, mem_putL, hm]
      simp only [Bool.and_eq_true, decide_eq_true_eq] at he
      simp only [he.1, Bool.true_and, Bool.or_eq_true, Bool.and_eq_true, decide_eq_true_eq]
      constructor
      · rintro (⟨j, h1, h2⟩ | rfl)
        · rcases h1 with h1 | h1
          · exact ⟨j, .inl h1, h2⟩
          · exact ⟨j, .inr (.inl h1), h2⟩
        · exact ⟨k + 1, .inr (.inr ⟨by omega, he.2⟩), by omega⟩
      · rintro ⟨j, h1 | h1 | ⟨h1, h2⟩, h3⟩
        · exact .inl ⟨j, .inl h1, h3⟩
        · exact .inl ⟨j, .inr h1, h3⟩
        · right; omega
    · rw [if_neg he, hm]
      constructor
      · rintro ⟨j, h1, h2⟩
        refine ⟨j, ?_, h2⟩
        rw [← Bool.or_assoc, h1, Bool.true_or]
      · rintro ⟨j, h1, h2⟩
        refine ⟨j, ?_, h2⟩
        rw [← Bool.or_assoc, Bool.or_eq_true] at h1
        rcases h1 with h1 | h1
        · exact h1
        · exfalso
          apply he
          simp only [Bool.and_eq_true, decide_eq_true_eq] at h1 ⊢
          exact ⟨h1.1, by omega⟩
theorem ld_ris {code : List Tx.Ins} (hok : Lay.codeOk code = true) : ldL code code.length = risL (ldB code code.length) 40 := by
  have hl := Lay.ok_len hok
  have hb : ∀ k j, k ≤ code.length → ldB code k j = true → j < code.length := by
    intro k
    induction k with
    | zero => intro j _ h; simp [ldB] at h; omega
    | succ k ih =>
      intro j hk h
      simp only [ldB, ld1, Bool.or_eq_true, Bool.and_eq_true, decide_eq_true_eq] at h
      rcases h with h | h | h
      · exact ih j (by omega) h
      · exact h.2.2
      · exact h.2.2
  refine rise_ext (ldL_rise code _) (risL_rise _ _) fun x => ?_
  rw [ldL_mem hok _ (Nat.le_refl _), risL_mem]
  constructor
  · rintro ⟨j, h, e⟩; exact ⟨j, by have := hb _ j (Nat.le_refl _) h; omega, h, e⟩
  · rintro ⟨j, _, h, e⟩; exact ⟨j, h, e⟩
def ldrA (l : List Tx.Ins) : List Int := if Lay.codeOk l then risL (ldB l l.length) 40 else []
theorem ldrA_len (l : List Tx.Ins) : (ldrA l).length ≤ 41 := by
  unfold ldrA
  split
  · have := risL_len (ldB l l.length) 40; omega
  · simp

set_option maxRecDepth 100000 in
set_option maxHeartbeats 2000000 in
theorem leadersIn_at (g yc : Nat) (code : List Tx.Ins) (hok : Lay.codeOk code = true) (w : World) (hrow : Row w g 0 code) :
    Calls Try.prog 43 #[.slice (some ⟨g, 0, none⟩) code.length yc] w fun e w' => e = .returned (.agg (chi 40 (ldB code code.length)).toArray) ∧ Below w.heap.size w w' := by
  have hl40 := (Lay.ok_len hok).2
  have lg : g < w.heap.size := cell_lt (hrow 0 _ (ins_is (Lay.ok_len hok).1)).1
  have HR : Hid (Row w g 0 code) := hrow
  obtain ⟨W, hW⟩ : ∃ W, W = (w.alloc (.cells (chi 40 fun _ => false).toArray 67)).alloc (.cells (chi 40 fun _ => false).toArray 67) := ⟨_, rfl⟩
  have hwW : Below w.heap.size w W := by rw [hW]; exact ((Below.refl _ _).alloc (Nat.le_refl _) _).alloc (by simp) _
  have C0 : Hid (Cells W w.heap.size (chi 40 fun _ => false)) := by show Cells _ _ _; rw [hW]; exact (Cells.new w _ rfl _ _).alloc _
  have C1 : Hid (Cells W (w.heap.size + 1) (chi 40 fun _ => false)) := by show Cells _ _ _; rw [hW]; exact Cells.new (w.alloc _) _ (by simp) _ _
  have C1L : Hid (Cells ((w.alloc (.cells (chi 40 fun _ => false).toArray 67)).alloc (.cells (chi 40 fun _ => false).toArray 67)) (w.heap.size + 1) (chi 40 fun _ => false)) := Cells.new (w.alloc _) _ (by simp) _ _
  have HW : Hid (W = (w.alloc (.cells (chi 40 fun _ => false).toArray 67)).alloc (.cells (chi 40 fun _ => false).toArray 67)) := hW
  clear hW hrow
  have HCO : Hid (∀ v ∈ (chi 40 fun j => decide (j = 0)), v.oneCell' = true) := chi_one _ _
  go_enter Try.func43, Try.ntmps43
  go_wp2_with (first
    | (with_reducible refine wpList_alloc_chi rfl 67 rfl 40 zeroS ?_)
    | (with_reducible refine wpList_build_chi rfl 67 rfl 40 (by decide) Try.underlying67 zeroS ?_)
    | (with_reducible refine wpList_store_mid rfl 67 (.tmp 3) (.tmp 6) rfl (w.heap.size + 1) 0 (chi 40 fun j => decide (j = 0)).toArray (by simp [Act.eval, Act.put]) (by simp [Act.eval, Act.put]) (C1L.out.there (by simp [chi_len])) (by rw [infoS]; simp [chi_len]) (all_oneCell_toArray HCO.out) ?_))
  rw [← HW.out]
  clear HW C1L
  have D0 : Hid (Cells (W.setCells (w.heap.size + 1) 0 (chi 40 fun j => decide (j = 0))) w.heap.size (chi 40 fun _ => false)) := C0.out.putFar _ (by omega)
  have D1 : Hid (Cells (W.setCells (w.heap.size + 1) 0 (chi 40 fun j => decide (j = 0))) (w.heap.size + 1) (chi 40 fun j => decide (j = 0))) := C1.out.put (by rw [chi_len, chi_len])
  have hbD : Below w.heap.size w (W.setCells (w.heap.size + 1) 0 (chi 40 fun j => decide (j = 0))) := below_setCells (by omega) _ _ hwW
  clear C0 C1 hwW HCO
  generalize W.setCells (w.heap.size + 1) 0 (chi 40 fun j => decide (j = 0)) = X at *
  go_loopw [9] (fun i wr => ∃ k : Nat, k ≤ code.length ∧ i = .int .i64 k ∧ Hid (Cells wr w.heap.size (chi 40 fun _ => false)) ∧ Hid (Cells wr (w.heap.size + 1) (chi 40 (ldB code k))) ∧ Below w.heap.size w wr) (fun i _ => code.length - (intOf i).toNat)
  case atStart => exact ⟨0, Nat.zero_le _, rfl, D0.out, D1.out, hbD⟩
  case round =>
    clear D0 D1 hbD
    obtain ⟨k, hk, rfl, hc0, hc1, hb⟩ := hrel
    by_cases hlt : k < code.length
    · obtain ⟨d0, d1, d2⟩ := (HR.out.below hb lg) k _ (ins_is hlt)
      have HLD : Hid (∀ j, ldB code (k + 1) j = (ldB code k j || ld1 code k j)) := fun j => rfl
      have HL1 : Hid (∀ j, ld1 code k j = ((Lay.jumpB (insF code k).1 && (decide ((insF code k).2.1 = (j : Int)) && decide (j < code.length))) || (endB (insF code k).1 && (decide ((k : Int) + 1 = (j : Int)) && decide (j < code.length))))) := fun j => rfl
      generalize insF code k = ins at *
      obtain ⟨op, a, b⟩ := ins
      dsimp only at d0 d1 d2 HL1
      simp only [Nat.zero_add] at d0 d1 d2
      have hki : (k : Int) < (code.length : Int) := by omega
      obtain ⟨X0, hX0⟩ : ∃ X0, X0 = wr.alloc (.cells #[.int .i64 op, .int .i64 a, .int .i64 b] 76) := ⟨_, rfl⟩
      have hb0 : Below wr.heap.size wr X0 := by rw [hX0]; exact (Below.refl _ _).alloc (Nat.le_refl _) _
      have BX0 : Hid (Cells X0 wr.heap.size [.int .i64 op, .int .i64 a, .int .i64 b]) := by show Cells _ _ _; rw [hX0]; exact Cells.new wr _ rfl _ _
      have HX0 : Hid (X0 = wr.alloc (.cells #[.int .i64 op, .int .i64 a, .int .i64 b] 76)) := hX0
      have hz : w.heap.size + 1 < wr.heap.size := hc1.out.lt' (by decide)
      clear hX0
      go_wp2_with fail
      rw [← HX0.out]
      clear HX0 d0 d1 d2
      refine (isJump op a b X0).mono ?_
      rintro e w1 ⟨rfl, hb1⟩
      have hB1 : Below wr.heap.size wr w1 := below_over hb0 hb1
      have E0 : Hid (Cells w1 w.heap.size (chi 40 fun _ => false)) := hc0.out.on hB1
      have E1 : Hid (Cells w1 (w.heap.size + 1) (chi 40 (ldB code k))) := hc1.out.on hB1
      have BX1 : Hid (Cells w1 wr.heap.size [.int .i64 op, .int .i64 a, .int .i64 b]) := BX0.out.on hb1
      have hw1 : Below w.heap.size w w1 := below_over hb hB1
      clear hb1 hb0 BX0 hB1 hc0 hc1 hb
      cases hj : Lay.jumpB op
      · obtain ⟨c0, _⟩ := BX1.out.g0
        obtain ⟨c1, _⟩ := BX1.out.g1
        obtain ⟨c2, _⟩ := BX1.out.g2
        go_wp2_with fail
        refine (isJump op a b w1).mono ?_
        rw [hj]
        rintro e w2 ⟨rfl, hb2⟩
        have F0 : Hid (Cells w2 w.heap.size (chi 40 fun _ => false)) := E0.out.on hb2
        have F1 : Hid (Cells w2 (w.heap.size + 1) (chi 40 (ldB code k))) := E1.out.on hb2
        have hw2 : Below w.heap.size w w2 := below_over hw1 hb2
        have BX2 : Hid (Cells w2 wr.heap.size [.int .i64 op, .int .i64 a, .int .i64 b]) := BX1.out.on hb2
        clear hb2 E0 E1 hw1 BX1 c0 c1 c2
        obtain ⟨c0, _⟩ := BX2.out.g0
        by_cases h20 : op = 20
        · subst h20
          have HP : Hid (∀ j, (ldB code k j || (decide ((k : Int) + 1 = (j : Int)) && decide (j < code.length))) = ldB code (k + 1) j) := fun j => by
            rw [HLD.out, HL1.out, hj]; simp [endB]
          clear HLD HL1 hj
          have h20b : ((20 : Int) == 20) = true := rfl
          go_wp2_with fail
          refine (addIn_at (some ⟨g, 0, none⟩) yc code.length hl40 ((k : Int) + 1) (w.heap.size + 1) (ldB code k) w2 F1.out).mono ?_
          rintro e w3 ⟨rfl, hc3, ho⟩
          have G0 : Hid (Cells w3 w.heap.size (chi 40 fun _ => false)) := F0.out.only ho (by omega)
          have G1 : Hid (Cells w3 (w.heap.size + 1) (chi 40 (ldB code (k + 1)))) := by show Cells _ _ _; rw [← chi_congr (fun j hj => HP.out j)]; exact hc3
          have hw3 : Below w.heap.size w w3 := hw2.trans (ho.below (Nat.le_succ _))
          clear ho hc3 F0 F1 hw2 HP BX2 c0
          go_wp2
          go_roundw
          case rel => exact ⟨k + 1, by omega, by go_num, G0.out, G1.out, hw3⟩
          case measure => simp [intOf]; omega
        · have HP : Hid (Cells w2 (w.heap.size + 1) (chi 40 (ldB code (k + 1)))) := by
            show Cells _ _ _
            rw [chi_congr (Q := ldB code k) (fun j _ => by rw [HLD.out, HL1.out, hj]; simp [endB, hj, h20])]
            exact F1.out
          have h20b : (op == 20) = false := by simp [h20]
          clear HLD HL1 hj F1 h20
          go_wp2
          go_roundw
          case rel => exact ⟨k + 1, by omega, by go_num, F0.out, HP.out, hw2⟩
          case measure => simp [intOf]; omega
      · have HP : Hid (∀ j, ((ldB code k j || (decide (a = (j : Int)) && decide (j < code.length))) || (decide ((k : Int) + 1 = (j : Int)) && decide (j < code.length))) = ldB code (k + 1) j) := fun j => by
          rw [HLD.out, HL1.out, hj]; simp [endB, hj, Bool.or_assoc]
        clear HLD HL1
        obtain ⟨c0, _⟩ := BX1.out.g0
        obtain ⟨c1, _⟩ := BX1.out.g1
        obtain ⟨c2, _⟩ := BX1.out.g2
        go_wp2_with fail
        refine (addIn_at (some ⟨g, 0, none⟩) yc code.length hl40 a (w.heap.size + 1) (ldB code k) w1 E1.out).mono ?_
        rintro e w2 ⟨rfl, hc2', ho⟩
        have F0 : Hid (Cells w2 w.heap.size (chi 40 fun _ => false)) := E0.out.only ho (by omega)
        have F1 : Hid (Cells w2 (w.heap.size + 1) (chi 40 fun j => ldB code k j || (decide (a = (j : Int)) && decide (j < code.length)))) := hc2'
        have hw2 : Below w.heap.size w w2 := hw1.trans (ho.below (Nat.le_succ _))
        have BX2 : Hid (Cells w2 wr.heap.size [.int .i64 op, .int .i64 a, .int .i64 b]) := BX1.out.only ho (by omega)
        clear ho hc2' E0 E1 hw1 BX1 c0 c1 c2
        obtain ⟨c0, _⟩ := BX2.out.g0
        obtain ⟨c1, _⟩ := BX2.out.g1
        obtain ⟨c2, _⟩ := BX2.out.g2
        go_wp2_with fail
        refine (isJump op a b w2).mono ?_
        rw [hj]
        rintro e w3 ⟨rfl, hb3⟩
        have G0 : Hid (Cells w3 w.heap.size (chi 40 fun _ => false)) := F0.out.on hb3
        have G1 : Hid (Cells w3 (w.heap.size + 1) (chi 40 fun j => ldB code k j || (decide (a = (j : Int)) && decide (j < code.length)))) := F1.out.on hb3
        have hw3 : Below w.heap.size w w3 := below_over hw2 hb3
        clear hb3 F0 F1 hw2 BX2 c0 c1 c2 hj
        go_wp2_with fail
        refine (addIn_at (some ⟨g, 0, none⟩) yc code.length hl40 ((k : Int) + 1) (w.heap.size + 1) _ w3 G1.out).mono ?_
        rintro e w4 ⟨rfl, hc4, ho⟩
        have H0 : Hid (Cells w4 w.heap.size (chi 40 fun _ => false)) := G0.out.only ho (by omega)
        have H1 : Hid (Cells w4 (w.heap.size + 1) (chi 40 (ldB code (k + 1)))) := by show Cells _ _ _; rw [← chi_congr (fun j hj => HP.out j)]; exact hc4
        have hw4 : Below w.heap.size w w4 := hw3.trans (ho.below (Nat.le_succ _))
        clear ho hc4 G0 G1 hw3 HP
        go_wp2
        go_roundw
        case rel => exact ⟨k + 1, by omega, by go_num, H0.out, H1.out, hw4⟩
        case measure => simp [intOf]; omega
    · obtain rfl : k = code.length := by omega
      have HC1 : Hid (Cells wr (w.heap.size + 1) (chi 40 (ldB code code.length))) := hc1.out
      clear hc1
      have HCL : Hid ((chi 40 (ldB code code.length)).length = 40) := chi_len _ _
      have HCO : Hid (∀ v ∈ chi 40 (ldB code code.length), v.oneCell' = true) := chi_one _ _
      have HC2 : Hid (Cells (wr.setCells w.heap.size 0 (chi 40 (ldB code code.length))) w.heap.size (chi 40 (ldB code code.length))) := hc0.out.put (by rw [chi_len, chi_len])
      have hb2 : Below w.heap.size w (wr.setCells w.heap.size 0 (chi 40 (ldB code code.length))) := below_setCells (Nat.le_refl _) _ _ hb
      clear hb
      generalize hcs : chi 40 (ldB code code.length) = cs at *
      have HCS : Hid (chi 40 (ldB code code.length) = cs) := hcs
      clear hcs
      go_wp2_with (first
        | (with_reducible refine wpList_load_mid rfl 67 (.tmp 3) rfl (w.heap.size + 1) 0 (by simp [Act.eval, Act.put]) cs _ HC1.out.range Try.underlying67 rfl (by rw [infoS, HCL.out]) ?_)
        | (with_reducible refine wpList_store_mid rfl 67 (.tmp 2) (.tmp 32) rfl w.heap.size 0 cs.toArray (by simp [Act.eval, Act.put]) (by simp [Act.eval, Act.put]) (hc0.out.there (by rw [chi_len]; simpa using HCL.out)) (by rw [infoS]; simpa using HCL.out.symm) (all_oneCell_toArray HCO.out) ?_))
      (try simp only [Exit.inBlock, Exit.then])
      refine bodyPost_ret (ret_cell rfl rfl HC2.out.range Try.underlying67 rfl (by rw [infoS, HCL.out])) rfl ?_
      exact ⟨by rw [HCS.out], hb2⟩
set_option maxRecDepth 100000 in
set_option maxHeartbeats 1000000 in
theorem implLeaders (g cap : Nat) (l : List Tx.Ins) (hl : l.length ≤ 1048576) (w : World) (hr : Row w g 0 l) :
    Calls Try.prog 11 #[.slice (some ⟨g, 0, none⟩) l.length cap] w fun e w' => ∃ x, e = .returned x ∧ GInt w.heap.size w' x (ldrA l) ∧ Below w.heap.size w w' := by
  have HR : Hid (Row w g 0 l) := hr
  clear hr
  go_enter Try.func11, Try.ntmps11
  go_wp2_with fail
  refine (implCodeOk g cap l hl w HR.out).mono ?_
  rintro e w1 ⟨rfl, hb1⟩
  cases hok : Lay.codeOk l
  · have HE : Hid (ldrA l = []) := by show _ = _; simp [ldrA, hok]
    clear hok
    go_wp2
    go_ret
    exact ⟨_, rfl, by rw [HE.out]; exact ((grow_start w1).base' hb1.size).gint, hb1.alloc hb1.size _⟩
  · have HE : Hid (ldrA l = risL (ldB l l.length) 40) := by show _ = _; simp [ldrA, hok]
    go_wp2_with fail
    refine (leadersIn_at g cap l hok w1 (HR.out.on hb1)).mono ?_
    rintro e w2 ⟨rfl, hb2⟩
    have hw2 : Below w.heap.size w w2 := below_over hb1 hb2
    clear hb1 hb2
    go_wp2_with fail
    refine (rising_at (ldB l l.length) w2).mono ?_
    rintro e w3 ⟨v, rfl, hg, hb3⟩
    have hw3 : Below w.heap.size w w3 := below_over hw2 hb3
    have HG : Hid (Grow w.heap.size w3 v (risL (ldB l l.length) 40)) := hg.base' hw2.size
    clear hg hb3 hok
    go_wp2
    go_ret
    exact ⟨_, rfl, by rw [HE.out]; exact HG.out.gint, hw3⟩
set_option maxRecDepth 100000 in
set_option maxHeartbeats 2000000 in
theorem l9Leaders_at (g yc : Nat) (code : List Tx.Ins) (hok : Lay.codeOk code = true) (w : World) (hrow : Row w g 0 code) :
    Calls Try.prog 48 #[.slice (some ⟨g, 0, none⟩) code.length yc] w fun e w' => ∃ v, e = .returned v ∧ Lst w' v (risL (ldB code code.length) 40) ∧ Below w.heap.size w w' := by
  have hl40 := (Lay.ok_len hok).2
  have lg : g < w.heap.size := cell_lt (hrow 0 _ (ins_is (Lay.ok_len hok).1)).1
  have HR : Hid (Row w g 0 code) := hrow
  have HE : Hid (ldL code code.length = risL (ldB code code.length) 40) := ld_ris hok
  have HG0 : Hid (Lst (w.alloc (.cells #[.int .i64 0] 2)) (.slice (some ⟨w.heap.size, 0, none⟩) 1 1) (ldL code 0)) := (grow_lit1 w 0).lst
  have hb0 : Below w.heap.size w (w.alloc (.cells #[.int .i64 0] 2)) := (Below.refl _ _).alloc (Nat.le_refl _) _
  clear hrow
  go_enter Try.func48, Try.ntmps48
  go_wp2_with fail
  go_loopw [3, 4] (fun v i wr => ∃ k : Nat, k ≤ code.length ∧ i = .int .i64 k ∧ Hid (Lst wr v (ldL code k)) ∧ Below w.heap.size w wr) (fun _ i _ => code.length - (intOf i).toNat)
  case atStart => exact ⟨0, Nat.zero_le _, rfl, HG0.out, hb0⟩
  case round =>
    clear HG0 hb0
    obtain ⟨k, hk, rfl, hls, hb⟩ := hrel
    by_cases hlt : k < code.length
    · obtain ⟨d0, d1, d2⟩ := (HR.out.below hb lg) k _ (ins_is hlt)
      have lgr : g < wr.heap.size := Nat.lt_of_lt_of_le lg hb.size
      have HLS : Hid (ldL code (k + 1) = ldS code k (ldL code k)) := rfl
      have HSS : Hid (ldS code k (ldL code k) = (if endB (insF code k).1 && decide (k + 1 < code.length) then putL (if Lay.jumpB (insF code k).1 then putL (ldL code k) (insF code k).2.1 else ldL code k) ((k : Int) + 1) else (if Lay.jumpB (insF code k).1 then putL (ldL code k) (insF code k).2.1 else ldL code k))) := rfl
      have hlen := ldL_len code k
      obtain ⟨gv, cv, rfl⟩ := hls.out.form
      generalize insF code k = ins at *
      obtain ⟨op, a, b⟩ := ins
      dsimp only at d0 d1 d2 HSS
      simp only [Nat.zero_add] at d0 d1 d2
      have hki : (k : Int) < (code.length : Int) := by omega
      generalize ldL code k = ls at *
      go_wp2_with fail
      refine (St.l3Jump op wr).mono ?_
      rintro e _ ⟨rfl, rfl⟩
      cases hj : Lay.jumpB op
      · go_wp2_with fail
        refine (St.l3Jump op wr).mono ?_
        rw [hj]
        rintro e _ ⟨rfl, rfl⟩
        by_cases h20 : op = 20
        · subst h20
          by_cases hl1 : k + 1 < code.length
          · have hli : (k : Int) + 1 < (code.length : Int) := by omega
            have HV : Hid (ldL code (k + 1) = putL ls ((k : Int) + 1)) := by show _ = _; rw [HLS.out, HSS.out]; simp [endB, hl1, hj]
            clear HLS HSS hj
            go_wp2_with fail
            refine (l1Put ls (.slice (some ⟨gv, 0, none⟩) ls.length cv) ((k : Int) + 1) (by omega) wr hls.out).mono ?_
            rintro e w3 ⟨v', rfl, hl3, hb3⟩
            have hw3 : Below w.heap.size w w3 := below_over hb hb3
            have HL3 : Hid (Lst w3 v' (ldL code (k + 1))) := by show Lst _ _ _; rw [HV.out]; exact hl3
            clear hb3 hl3 HV d0 d1 d2 hls hb lgr
            go_wp2
            go_roundw
            case rel => exact ⟨k + 1, by omega, by go_num, HL3.out, hw3⟩
            case measure => simp [intOf]; omega
          · have hli : ¬ (k : Int) + 1 < (code.length : Int) := by omega
            have HV : Hid (Lst wr (.slice (some ⟨gv, 0, none⟩) ls.length cv) (ldL code (k + 1))) := by show Lst _ _ _; rw [HLS.out, HSS.out]; simpa [hl1, hj] using hls.out
            clear HLS HSS hj
            go_wp2
            go_roundw
            case rel => exact ⟨k + 1, by omega, by go_num, HV.out, hb⟩
            case measure => simp [intOf]; omega
        · have h20b : (op == 20) = false := by simp [h20]
          have HV : Hid (Lst wr (.slice (some ⟨gv, 0, none⟩) ls.length cv) (ldL code (k + 1))) := by show Lst _ _ _; rw [HLS.out, HSS.out]; simpa [endB, h20, hj] using hls.out
          clear HLS HSS hj h20
          go_wp2
          go_roundw
          case rel => exact ⟨k + 1, by omega, by go_num, HV.out, hb⟩
          case measure => simp [intOf]; omega
      · go_wp2_with fail
        refine (l1Put ls (.slice (some ⟨gv, 0, none⟩) ls.length cv) a (by omega) wr hls.out).mono ?_
        rintro e w3 ⟨v', rfl, hl3, hb3⟩
        have hw3 : Below w.heap.size w w3 := below_over hb hb3
        have HL3 : Hid (Lst w3 v' (putL ls a)) := hl3
        have c0 := (hb3.cell (p := ⟨g, k * 3, none⟩) lgr).trans d0
        have hpl := putL_len ls a
        clear hb3 hl3 d0 d1 d2 hls hb
        go_wp2_with fail
        refine (St.l3Jump op w3).mono ?_
        rw [hj]
        rintro e _ ⟨rfl, rfl⟩
        by_cases hl1 : k + 1 < code.length
        · have hli : (k : Int) + 1 < (code.length : Int) := by omega
          have HV : Hid (ldL code (k + 1) = putL (putL ls a) ((k : Int) + 1)) := by show _ = _; rw [HLS.out, HSS.out]; simp [endB, hl1, hj]
          clear HLS HSS hj
          go_wp2_with fail
          refine (l1Put (putL ls a) v' ((k : Int) + 1) (by omega) w3 HL3.out).mono ?_
          rintro e w4 ⟨v4, rfl, hl4, hb4⟩
          have hw4 : Below w.heap.size w w4 := below_over hw3 hb4
          have HL4 : Hid (Lst w4 v4 (ldL code (k + 1))) := by show Lst _ _ _; rw [HV.out]; exact hl4
          clear hb4 hl4 HV HL3 hw3 lgr c0
          go_wp2
          go_roundw
          case rel => exact ⟨k + 1, by omega, by go_num, HL4.out, hw4⟩
          case measure => simp [intOf]; omega
        · have hli : ¬ (k : Int) + 1 < (code.length : Int) := by omega
          have HV : Hid (Lst w3 v' (ldL code (k + 1))) := by show Lst _ _ _; rw [HLS.out, HSS.out]; simpa [hl1, hj] using HL3.out
          clear HLS HSS hj HL3 c0
          go_wp2
          go_roundw
          case rel => exact ⟨k + 1, by omega, by go_num, HV.out, hw3⟩
          case measure => simp [intOf]; omega
    · obtain rfl : k = code.length := by omega
      go_wp2
      go_ret
      exact ⟨_, rfl, by rw [← HE.out]; exact hls.out, hb⟩
set_option maxRecDepth 100000 in
set_option maxHeartbeats 1000000 in
theorem specLeaders (g cap : Nat) (l : List Tx.Ins) (hl : l.length ≤ 1048576) (w : World) (hr : Row w g 0 l) :
    Calls Try.prog 17 #[.slice (some ⟨g, 0, none⟩) l.length cap] w fun e w' => ∃ x, e = .returned x ∧ Lst w' x (ldrA l) ∧ Below w.heap.size w w' := by
  have HR : Hid (Row w g 0 l) := hr
  clear hr
  go_enter Try.func17, Try.ntmps17
  go_wp2_with fail
  refine (specCodeOk g cap l hl w HR.out).mono ?_
  rintro e w1 ⟨rfl, hb1⟩
  cases hok : Lay.codeOk l
  · have HE : Hid (ldrA l = []) := by show _ = _; simp [ldrA, hok]
    clear hok
    go_wp2
    go_ret
    exact ⟨_, rfl, by rw [HE.out]; exact (grow_start w1).lst, hb1.alloc hb1.size _⟩
  · have HE : Hid (ldrA l = risL (ldB l l.length) 40) := by show _ = _; simp [ldrA, hok]
    go_wp2_with fail
    refine (l9Leaders_at g cap l hok w1 (HR.out.on hb1)).mono ?_
    rintro e w2 ⟨v, rfl, hls, hb2⟩
    have hw2 : Below w.heap.size w w2 := below_over hb1 hb2
    have HL : Hid (Lst w2 v (risL (ldB l l.length) 40)) := hls
    clear hb1 hb2 hls hok
    go_wp2
    go_ret
    exact ⟨_, rfl, by rw [HE.out]; exact HL.out, hw2⟩
end Pg
end Go.Proofs.Ytffkkhaiedhaiaa
