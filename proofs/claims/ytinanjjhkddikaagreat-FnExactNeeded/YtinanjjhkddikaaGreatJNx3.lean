/- Contracts: what may come next, as the program and as the specification list it. -/
import Derived.Test.YtinanjjhkddikaaGreatJSf1
import Derived.Test.YtinanjjhkddikaaGreatJLo0
import Derived.Test.YtinanjjhkddikaaGreatJSf9
import Derived.Deep.MidRow
import Derived.ChangeKeysEq
import Derived.Deep.WholeRow
namespace Go.Proofs.YtinanjjhkddikaaGreat
namespace Pg
open Go.ChangeShapes Go.WideShapes Go.ChangeAt Go.RowKit St

/-- Where one may come next, as numbers. -/
def waysI (i : Tx.Ins) (at' : Nat) : List Int := (waysF i at').map fun (j : Nat) => (j : Int)
set_option maxRecDepth 100000 in
set_option maxHeartbeats 1000000 in
theorem waysFrom_at (i : Tx.Ins) (k : Nat) (hk : k ≤ 1000) (h0 : i.1 = 11 ∨ i.1 = 12 → 0 ≤ i.2.1) (w : World) :
    Calls Tryz.prog 115 #[.agg #[.int .i64 i.1, .int .i64 i.2.1, .int .i64 i.2.2], .int .i64 k] w fun e w' => ∃ v, e = .returned v ∧ SI true w.heap.size w' v (waysI i k) ∧ Below w.heap.size w w' := by
  obtain ⟨op, A, b⟩ := i
  dsimp only at *
  have hbl : Below w.heap.size w (w.alloc (.cells #[.int .i64 op, .int .i64 A, .int .i64 b] 73)) := (Below.refl _ _).alloc (Nat.le_refl _) _
  by_cases h20 : op = 20
  · subst h20
    go_enter Tryz.func115, Tryz.ntmps115
    go_wp2
    go_ret
    exact ⟨_, rfl, by simpa [waysI, waysF] using SI.nil true _ _, hbl⟩
  · by_cases h11 : op = 11
    · subst h11
      have hA := h0 (.inl rfl)
      have HW : Hid (waysI (11, A, b) k = [A]) := by show _ = _; simp [waysI, waysF]; omega
      go_enter Tryz.func115, Tryz.ntmps115
      go_wp2
      go_ret
      refine ⟨_, rfl, ?_, hbl.alloc hbl.size _⟩
      rw [HW.out]
      have h := SI.weak (grow_lit1 (w.alloc (.cells #[.int .i64 11, .int .i64 A, .int .i64 b] 73)) A).gint.si hbl.size
      simpa using h
    · have hwr : wrap64 ((k : Int) + 1) = (k : Int) + 1 := by unfold wrap64; omega
      by_cases h12 : op = 12
      · subst h12
        have hA := h0 (.inr rfl)
        have HW : Hid (waysI (12, A, b) k = [A, (k : Int) + 1]) := by show _ = _; simp [waysI, waysF]; omega
        go_enter Tryz.func115, Tryz.ntmps115
        go_wp2
        go_ret
        refine ⟨_, rfl, ?_, hbl.alloc hbl.size _⟩
        rw [HW.out]
        have h := SI.weak (grow_lit2 (w.alloc (.cells #[.int .i64 12, .int .i64 A, .int .i64 b] 73)) A ((k : Int) + 1)).gint.si hbl.size
        simpa using h
      · have HW : Hid (waysI (op, A, b) k = [(k : Int) + 1]) := by show _ = _; simp [waysI, waysF, h20, h11, h12]
        have hn20 : (op == 20) = false := by simp [h20]
        have hn11 : (op == 11) = false := by simp [h11]
        have hn12 : (op == 12) = false := by simp [h12]
        go_enter Tryz.func115, Tryz.ntmps115
        go_wp2
        go_ret
        refine ⟨_, rfl, ?_, hbl.alloc hbl.size _⟩
        rw [HW.out]
        have h := SI.weak (grow_lit1 (w.alloc (.cells #[.int .i64 op, .int .i64 A, .int .i64 b] 73)) ((k : Int) + 1)).gint.si hbl.size
        simpa using h
set_option maxRecDepth 100000 in
set_option maxHeartbeats 2000000 in
theorem l9Nexts_at (g yc : Nat) (code : List Tx.Ins) (hl : code.length ≤ 1000) (k : Nat) (hk : k < code.length) (w : World) (hrow : Row w g 0 code) :
    Calls Tryz.prog 68 #[.slice (some ⟨g, 0, none⟩) code.length yc, .int .i64 k] w fun e w' => ∃ v, e = .returned v ∧ Lst w' v (nextsF code k) ∧ Below w.heap.size w w' := by
  have hx : code[k]? = some (insF code k) := by unfold insF; rw [List.getD_eq_getElem?_getD, List.getElem?_eq_getElem hk]; rfl
  obtain ⟨d0, d1, d2⟩ := hrow k _ hx
  simp only [Nat.zero_add] at d0 d1 d2
  have hki : (k : Int) < (code.length : Int) := by omega
  rw [nexts_is]
  generalize insF code k = ins at *
  obtain ⟨op, A, b⟩ := ins
  dsimp only at d0 d1 d2 ⊢
  have hw2 : Below w.heap.size w ((w.alloc (.cells #[.int .i64 op, .int .i64 A, .int .i64 b] 73)).alloc (.cells #[] 2)) := ((Below.refl _ _).alloc (Nat.le_refl _) _).alloc (by simp) _
  have CI2 : Hid (Cells ((w.alloc (.cells #[.int .i64 op, .int .i64 A, .int .i64 b] 73)).alloc (.cells #[] 2)) w.heap.size [.int .i64 op, .int .i64 A, .int .i64 b]) := (Cells.new w _ rfl _ _).alloc _
  have CI3 : Hid (Cells (((w.alloc (.cells #[.int .i64 op, .int .i64 A, .int .i64 b] 73)).alloc (.cells #[] 2)).alloc (.cells #[.int .i64 ((k : Int) + 1)] 2)) w.heap.size [.int .i64 op, .int .i64 A, .int .i64 b]) := ((Cells.new w _ rfl _ _).alloc _).alloc _
  have hge : Grow (w.heap.size + 1) ((w.alloc (.cells #[.int .i64 op, .int .i64 A, .int .i64 b] 73)).alloc (.cells #[] 2)) (.slice (some ⟨w.heap.size + 1, 0, none⟩) 0 0) [] := by
    have h := grow_empty (w.alloc (.cells #[.int .i64 op, .int .i64 A, .int .i64 b] 73)) (B := w.heap.size + 1) (by simp)
    simpa using h
  have HGL : Hid (Grow (w.heap.size + 1) (((w.alloc (.cells #[.int .i64 op, .int .i64 A, .int .i64 b] 73)).alloc (.cells #[] 2)).alloc (.cells #[.int .i64 ((k : Int) + 1)] 2)) (.slice (some ⟨w.heap.size + 1, 0, none⟩) 0 0) []) := growOn hge (allocBelow _ _)
  have HL0 : Hid (Lst ((w.alloc (.cells #[.int .i64 op, .int .i64 A, .int .i64 b] 73)).alloc (.cells #[] 2)) (.slice (some ⟨w.heap.size + 1, 0, none⟩) 0 0) []) := hge.lst
  have HSI : Hid (SI true (w.heap.size + 1) (((w.alloc (.cells #[.int .i64 op, .int .i64 A, .int .i64 b] 73)).alloc (.cells #[] 2)).alloc (.cells #[.int .i64 ((k : Int) + 1)] 2)) (.slice (some ⟨w.heap.size + 1 + 1, 0, none⟩) 1 1) [(k : Int) + 1]) := by
    have h := SI.weak (grow_lit1 ((w.alloc (.cells #[.int .i64 op, .int .i64 A, .int .i64 b] 73)).alloc (.cells #[] 2)) ((k : Int) + 1)).gint.si (B' := w.heap.size + 1) (by simp)
    show SI _ _ _ _ _
    simpa using h
  clear hx hrow hge
  by_cases h11 : op = 11
  · subst h11
    have HV : Hid (nextsL 11 A k code.length = putL [] A) := by show _ = _; simp [nextsL]
    rw [HV.out]
    have hjb : Lay.jumpB 11 = true := by simp [Lay.jumpB]
    go_enter Tryz.func68, Tryz.ntmps68
    obtain ⟨i0, _⟩ := CI2.out.g0
    obtain ⟨i1, _⟩ := CI2.out.g1
    go_wp2_with fail
    refine (St.l3Jump 11 ((w.alloc (.cells #[.int .i64 11, .int .i64 A, .int .i64 b] 73)).alloc (.cells #[] 2))).mono ?_
    rw [hjb]
    rintro e _ ⟨rfl, rfl⟩
    go_wp2_with fail
    refine (l1Put ([] : List Int) (.slice (some ⟨w.heap.size + 1, 0, none⟩) 0 0) A (by simp) ((w.alloc (.cells #[.int .i64 11, .int .i64 A, .int .i64 b] 73)).alloc (.cells #[] 2)) HL0.out).mono ?_
    rintro e w3 ⟨v', rfl, hls, hb3⟩
    have hw3 : Below w.heap.size w w3 := below_over hw2 hb3
    clear hb3
    go_wp2
    go_ret
    exact ⟨_, rfl, hls, hw3⟩
  · have hn11 : (op != 11) = true := by simp [h11]
    by_cases h20 : op = 20
    · subst h20
      clear hn11
      have HV : Hid (nextsL 20 A k code.length = []) := by show _ = _; simp [nextsL]
      rw [HV.out]
      have hjb : Lay.jumpB 20 = false := by simp [Lay.jumpB]
      go_enter Tryz.func68, Tryz.ntmps68
      obtain ⟨i0, _⟩ := CI2.out.g0
      obtain ⟨i1, _⟩ := CI2.out.g1
      go_wp2_with fail
      refine (St.l3Jump 20 ((w.alloc (.cells #[.int .i64 20, .int .i64 A, .int .i64 b] 73)).alloc (.cells #[] 2))).mono ?_
      rw [hjb]
      rintro e _ ⟨rfl, rfl⟩
      go_wp2
      go_ret
      exact ⟨_, rfl, HL0.out, hw2⟩
    · have hn20 : (op != 20) = true := by simp [h20]
      by_cases hlt : k + 1 < code.length
      · have hli : (k : Int) + 1 < (code.length : Int) := by omega
        have hld : decide ((k : Int) + 1 < (code.length : Int)) = true := by simp; omega
        by_cases h12 : op = 12
        · subst h12
          clear hn11 hn20
          have HV : Hid (nextsL 12 A k code.length = putL [(k : Int) + 1] A) := by show _ = _; simp [nextsL, hlt]
          rw [HV.out]
          have hjb : Lay.jumpB 12 = true := by simp [Lay.jumpB]
          go_enter Tryz.func68, Tryz.ntmps68
          go_wp2_with (at_builtin; refine wpList_grow rfl _ _ rfl (w.heap.size + 1) _ _ rfl HGL.out (by simp) _ _ _ [(k : Int) + 1] rfl HSI.out (by simp) ?_)
          intro v1 w1 hg1 hk1
          have hw1 : Below w.heap.size w w1 := ((((Below.refl _ _).alloc (Nat.le_refl _) _).alloc (by simp) _).alloc (by simp; omega) _).trans (hk1.below.mono (Nat.le_succ _))
          have CI1 : Cells w1 w.heap.size [.int .i64 12, .int .i64 A, .int .i64 b] := CI3.out.low hk1.below (Nat.lt_succ_self _)
          have HGW : Hid (Grow (w.heap.size + 1) w1 v1 [(k : Int) + 1]) := hg1
          obtain ⟨i0, _⟩ := CI1.g0
          obtain ⟨i1, _⟩ := CI1.g1
          clear hg1 hk1
          go_wp2_with fail
          refine (St.l3Jump 12 w1).mono ?_
          rw [hjb]
          rintro e _ ⟨rfl, rfl⟩
          go_wp2_with fail
          refine (l1Put [(k : Int) + 1] v1 A (by simp) w1 HGW.out.lst).mono ?_
          rintro e w3 ⟨v', rfl, hls, hb3⟩
          have hw3 : Below w.heap.size w w3 := below_over hw1 hb3
          clear hb3
          go_wp2
          go_ret
          exact ⟨_, rfl, hls, hw3⟩
        · have HV : Hid (nextsL op A k code.length = [(k : Int) + 1]) := by show _ = _; simp [nextsL, h11, h20, h12, hlt]
          rw [HV.out]
          have hjb : Lay.jumpB op = false := by simp [Lay.jumpB, h11, h12]
          go_enter Tryz.func68, Tryz.ntmps68
          go_wp2_with (at_builtin; refine wpList_grow rfl _ _ rfl (w.heap.size + 1) _ _ rfl HGL.out (by simp) _ _ _ [(k : Int) + 1] rfl HSI.out (by simp) ?_)
          intro v1 w1 hg1 hk1
          have hw1 : Below w.heap.size w w1 := ((((Below.refl _ _).alloc (Nat.le_refl _) _).alloc (by simp) _).alloc (by simp; omega) _).trans (hk1.below.mono (Nat.le_succ _))
          have CI1 : Cells w1 w.heap.size [.int .i64 op, .int .i64 A, .int .i64 b] := CI3.out.low hk1.below (Nat.lt_succ_self _)
          have HGW : Hid (Grow (w.heap.size + 1) w1 v1 [(k : Int) + 1]) := hg1
          obtain ⟨i0, _⟩ := CI1.g0
          obtain ⟨i1, _⟩ := CI1.g1
          clear hg1 hk1
          go_wp2_with fail
          refine (St.l3Jump op w1).mono ?_
          rw [hjb]
          rintro e _ ⟨rfl, rfl⟩
          go_wp2
          go_ret
          exact ⟨_, rfl, HGW.out.lst, hw1⟩
      · have hli : ¬ (k : Int) + 1 < (code.length : Int) := by omega
        have hld : decide ((k : Int) + 1 < (code.length : Int)) = false := by simp; omega
        by_cases h12 : op = 12
        · subst h12
          clear hn11 hn20
          have HV : Hid (nextsL 12 A k code.length = putL [] A) := by show _ = _; simp [nextsL, hlt]
          rw [HV.out]
          have hjb : Lay.jumpB 12 = true := by simp [Lay.jumpB]
          go_enter Tryz.func68, Tryz.ntmps68
          obtain ⟨i0, _⟩ := CI2.out.g0
          obtain ⟨i1, _⟩ := CI2.out.g1
          go_wp2_with fail
          refine (St.l3Jump 12 ((w.alloc (.cells #[.int .i64 12, .int .i64 A, .int .i64 b] 73)).alloc (.cells #[] 2))).mono ?_
          rw [hjb]
          rintro e _ ⟨rfl, rfl⟩
          go_wp2_with fail
          refine (l1Put ([] : List Int) (.slice (some ⟨w.heap.size + 1, 0, none⟩) 0 0) A (by simp) ((w.alloc (.cells #[.int .i64 12, .int .i64 A, .int .i64 b] 73)).alloc (.cells #[] 2)) HL0.out).mono ?_
          rintro e w3 ⟨v', rfl, hls, hb3⟩
          have hw3 : Below w.heap.size w w3 := below_over hw2 hb3
          clear hb3
          go_wp2
          go_ret
          exact ⟨_, rfl, hls, hw3⟩
        · have HV : Hid (nextsL op A k code.length = []) := by show _ = _; simp [nextsL, h11, h12, hlt]
          rw [HV.out]
          have hjb : Lay.jumpB op = false := by simp [Lay.jumpB, h11, h12]
          go_enter Tryz.func68, Tryz.ntmps68
          obtain ⟨i0, _⟩ := CI2.out.g0
          obtain ⟨i1, _⟩ := CI2.out.g1
          go_wp2_with fail
          refine (St.l3Jump op ((w.alloc (.cells #[.int .i64 op, .int .i64 A, .int .i64 b] 73)).alloc (.cells #[] 2))).mono ?_
          rw [hjb]
          rintro e _ ⟨rfl, rfl⟩
          go_wp2
          go_ret
          exact ⟨_, rfl, HL0.out, hw2⟩
end Pg
end Go.Proofs.YtinanjjhkddikaaGreat

/- Contracts of the program's sets of steps: one more in them, what is in them, rising. -/
namespace Go.Proofs.YtinanjjhkddikaaGreat
namespace Pg
open Go.ChangeShapes Go.WideShapes Go.ChangeAt Go.RowKit St

/-- A set of steps, as the cells of an array. -/
def chi (n : Nat) (P : Nat → Bool) : List Value := (List.range n).map fun j => Value.bool (P j)
theorem chi_len (n : Nat) (P : Nat → Bool) : (chi n P).length = n := by simp [chi]
theorem chi_at {n : Nat} (P : Nat → Bool) {j : Nat} (h : j < n) : (chi n P)[j]? = some (.bool (P j)) := by simp [chi, h]
theorem chi_one (n : Nat) (P : Nat → Bool) : ∀ v ∈ chi n P, v.oneCell' = true := by
  intro v hv
  obtain ⟨j, _, rfl⟩ := List.mem_map.1 hv
  rfl
theorem chi_congr {n : Nat} {P Q : Nat → Bool} (h : ∀ j, j < n → P j = Q j) : chi n P = chi n Q := by
  unfold chi
  exact List.map_congr_left fun j hj => by rw [h j (List.mem_range.1 hj)]
theorem chi_set {n : Nat} (P : Nat → Bool) (k : Nat) (b : Bool) : (chi n P).set k (.bool b) = chi n fun j => if j = k then b else P j := by
  apply List.ext_getElem?
  intro j
  rw [List.getElem?_set]
  by_cases hj : j < n
  · rw [chi_at _ hj, chi_at _ hj, chi_len]
    by_cases e : k = j
    · subst e; simp [hj]
    · simp [e, Ne.symm e]
  · have h1 : (chi n P)[j]? = none := List.getElem?_eq_none (by rw [chi_len]; omega)
    have h2 : (chi n fun j => if j = k then b else P j)[j]? = none := List.getElem?_eq_none (by rw [chi_len]; omega)
    rw [h1, h2, chi_len]
    by_cases e : k = j
    · subst e; simp [hj]
    · simp [e]
theorem Cells.range {w : World} {k : Nat} {vs : List Value} (h : Cells w k vs) : w.rangeAt k 0 vs := fun j v hv => by rw [Nat.zero_add]; exact (h j v hv).1
theorem Cells.there {w : World} {k : Nat} {vs : List Value} (h : Cells w k vs) {n : Nat} (hn : n = vs.length) : w.there k 0 n := fun j hj => by
  subst hn
  obtain ⟨h1, h2⟩ := h j _ (List.getElem?_eq_getElem hj)
  rw [Nat.zero_add]
  exact ⟨by rw [h1]; rfl, h2⟩
theorem Cells.put {w : World} {k : Nat} {vs us : List Value} (h : Cells w k vs) (hn : us.length = vs.length) : Cells (w.setCells k 0 us) k us := fun i x hx => by
  have h1 := World.rangeAt_setCells_same w k 0 us (h.there hn) i x hx
  have h2 := (World.there_setCells (h.there hn) k 0 us) i (List.getElem?_eq_some_iff.1 hx).1
  rw [Nat.zero_add] at h1 h2
  exact ⟨h1, h2.2⟩
theorem Cells.putFar {w : World} {k b : Nat} {vs : List Value} (h : Cells w k vs) (us : List Value) (hn : k ≠ b) : Cells (w.setCells b 0 us) k vs := fun i x hx => by
  have h1 := World.rangeAt_setCells_apart h.range b 0 us (.inl hn) i x hx
  rw [Nat.zero_add] at h1
  exact ⟨h1, by rw [World.frozen?_setCells]; exact (h i x hx).2⟩
theorem infoS : (Tryz.prog.info? 132).map (·.size) = some 40 := by kernel_rfl

theorem plainB : Tryz.prog.plainKey 4 = true := by kernel_rfl
theorem cellsB : Tryz.prog.cellsOf 4 = 1 := by kernel_rfl
theorem infoB : (Tryz.prog.info? 4).map (fun i => (i.zero, i.size, i.bytes)) = some (some (.bool false), 1, 1) := by kernel_rfl
/-- One of an array of flags, by value. -/
theorem run_index_chi {t n : Nat} (hu : Tryz.prog.underlying t = some (.array n 4)) (P : Nat → Bool) {k : Nat} (hk : k < n) (w : World) :
    (Instr.index t (.agg (chi n P).toArray) (.int .i64 (k : Int))).run Tryz.prog w = .ok (.bool (P k)) w := by
  obtain ⟨i0, hi, _, hz1, _⟩ := info_parts infoB
  have h0 : (0 : Int) ≤ (k : Int) ∧ (k : Int) < (n : Int) := by omega
  have hx : (chi n P).toArray[k]? = some (.bool (P k)) := by rw [List.getElem?_toArray]; exact chi_at P hk
  simp [Instr.index, run_underlying hu, asIntOf, h0, run_sizeOf w hi, cellsB, run_part_plain w plainB hx, Sem.run_bind]
  intro h; omega
/-- Two arrays of flags, held against each other. -/
def alike (n : Nat) (P Q : Nat → Bool) : Bool := (List.range n).all fun j => P j == Q j
theorem run_items {n : Nat} (P Q : Nat → Bool) (d : Nat) (w : World) : ∀ is : List Nat, (∀ j ∈ is, j < n) → (Op.eqItems (d + 1) 4 1 (chi n P).toArray (chi n Q).toArray is).run Tryz.prog w = .ok (is.all fun j => P j == Q j) w
  | [], _ => by simp [Op.eqItems]
  | j :: is, h => by
    have hj := h j List.mem_cons_self
    have ih := run_items P Q d w is fun i hi => h i (List.mem_cons_of_mem _ hi)
    have hx : (chi n P).toArray[j]? = some (.bool (P j)) := by rw [List.getElem?_toArray]; exact chi_at P hj
    have hy : (chi n Q).toArray[j]? = some (.bool (Q j)) := by rw [List.getElem?_toArray]; exact chi_at Q hj
    simp only [Op.eqItems, Sem.run_bind, Nat.mul_one, run_part_plain w plainB hx, run_part_plain w plainB hy, Result.andThen_ok, run_equalIn_bool' w d 4 (P j) (Q j) Tryz.underlying4, List.all_cons]
    cases hpq : (P j == Q j)
    · simp
    · simpa using ih
theorem run_equal_chi {t n : Nat} (hu : Tryz.prog.underlying t = some (.array n 4)) (P Q : Nat → Bool) (w : World) :
    (Op.equalIn 10000 t (.agg (chi n P).toArray) (.agg (chi n Q).toArray)).run Tryz.prog w = .ok (alike n P Q) w := by
  obtain ⟨i0, hi, _, hz1, _⟩ := info_parts infoB
  rw [run_equalIn_array w 9999 _ _ hu hi, cellsB, run_items P Q 9998 w _ (fun j hj => List.mem_range.1 hj)]
  rfl
theorem run_eql_chi {t n : Nat} (hu : Tryz.prog.underlying t = some (.array n 4)) (P Q : Nat → Bool) (w : World) :
    (binOp .eql t (.agg (chi n P).toArray) (.agg (chi n Q).toArray)).run Tryz.prog w = .ok (.bool (alike n P Q)) w := by
  obtain ⟨i0, hi, _, hz1, _⟩ := info_parts infoB
  rw [run_eql_struct]
  rw [run_equalIn_array w 9999 _ _ hu hi, cellsB, run_items P Q 9998 w _ (fun j hj => List.mem_range.1 hj)]
  rfl
theorem alike_iff {n : Nat} {P Q : Nat → Bool} : alike n P Q = true ↔ ∀ j, j < n → P j = Q j := by simp [alike]

/-- The numbers below k in a set, rising. -/
def risL (P : Nat → Bool) (k : Nat) : List Int := ((List.range k).filter P).map fun (j : Nat) => (j : Int)
theorem risL_zero (P : Nat → Bool) : risL P 0 = [] := rfl
theorem risL_succ (P : Nat → Bool) (k : Nat) : risL P (k + 1) = risL P k ++ (if P k then [(k : Int)] else []) := by
  unfold risL
  rw [List.range_succ, List.filter_append, List.map_append]
  cases h : P k <;> simp [h]
theorem risL_len (P : Nat → Bool) (k : Nat) : (risL P k).length ≤ k := by
  unfold risL
  rw [List.length_map]
  have := List.length_filter_le P (List.range k)
  simpa using this
theorem risL_mem {P : Nat → Bool} {k : Nat} {x : Int} : x ∈ risL P k ↔ ∃ j : Nat, j < k ∧ P j = true ∧ x = (j : Int) := by
  unfold risL
  simp only [List.mem_map, List.mem_filter, List.mem_range]
  constructor
  · rintro ⟨j, ⟨h1, h2⟩, rfl⟩; exact ⟨j, h1, h2, rfl⟩
  · rintro ⟨j, h1, h2, rfl⟩; exact ⟨j, ⟨h1, h2⟩, rfl⟩
theorem risL_rise (P : Nat → Bool) (k : Nat) : Rise (risL P k) := by
  induction k with
  | zero => simp [risL]
  | succ k ih =>
    rw [risL_succ]
    refine List.pairwise_append.2 ⟨ih, by split <;> simp, fun x hx y hy => ?_⟩
    obtain ⟨j, hj, _, rfl⟩ := risL_mem.1 hx
    split at hy
    · simp at hy; subst hy; omega
    · simp at hy
theorem risL_congr {P Q : Nat → Bool} {k : Nat} (h : ∀ j, j < k → P j = Q j) : risL P k = risL Q k := by
  unfold risL
  rw [List.filter_congr fun j hj => h j (List.mem_range.1 hj)]

set_option maxRecDepth 100000 in
set_option maxHeartbeats 1000000 in
theorem rising_at (P : Nat → Bool) (w : World) :
    Calls Tryz.prog 94 #[.agg (chi 40 P).toArray] w fun e w' => ∃ v, e = .returned v ∧ Grow w.heap.size w' v (risL P 40) ∧ Below w.heap.size w w' := by
  obtain ⟨i0, hif, hz0, hz1, hz2⟩ := info_parts infoN
  have C0 : Hid (Cells ((w.alloc (.cells (chi 40 P).toArray 132)).alloc (.cells #[] 2)) w.heap.size (chi 40 P)) := (Cells.new w _ rfl _ _).alloc _
  have hb0 : Below w.heap.size w ((w.alloc (.cells (chi 40 P).toArray 132)).alloc (.cells #[] 2)) := ((Below.refl _ _).alloc (Nat.le_refl _) _).alloc (by simp) _
  have HG0 : Hid (Grow w.heap.size ((w.alloc (.cells (chi 40 P).toArray 132)).alloc (.cells #[] 2)) (.slice (some ⟨w.heap.size + 1, 0, none⟩) 0 0) []) := grow_nil w _
  go_enter Tryz.func94, Tryz.ntmps94
  go_wp2_with (with_reducible refine wpList_load_mid rfl 132 (.tmp 1) rfl w.heap.size 0 (by simp [Act.eval]) (chi 40 P) _ C0.out.range Tryz.underlying132 rfl (by rw [infoS, chi_len]) ?_)
  clear C0
  go_loopw [3, 8] (fun v i wr => ∃ k : Nat, k ≤ 40 ∧ i = .int .i64 k ∧ Hid (Grow w.heap.size wr v (risL P k)) ∧ Below w.heap.size w wr) (fun _ i _ => 40 - (intOf i).toNat)
  case atStart => exact ⟨0, Nat.zero_le _, rfl, HG0.out, hb0⟩
  case round =>
    clear hb0 HG0
    obtain ⟨k, hk, rfl, hg, hb⟩ := hrel
    by_cases hlt : k < 40
    · have hx := run_index_chi Tryz.underlying132 P hlt wr
      have hki : (k : Int) < 40 := by omega
      obtain ⟨ga, ca, rfl⟩ := hg.out.form
      have HLN : Hid ((risL P k).length ≤ k) := risL_len P k
      have HB : Hid (w.heap.size ≤ wr.heap.size) := hb.size
      have HST : Hid (risL P (k + 1) = risL P k ++ (if P k then [(k : Int)] else [])) := risL_succ P k
      generalize hpk : P k = b at *
      cases b
      · have HG : Hid (Grow w.heap.size wr (.slice (some ⟨ga, 0, none⟩) (risL P k).length ca) (risL P (k + 1))) := by show Grow _ _ _ _; rw [HST.out]; simpa using hg.out
        clear hpk HST
        go_wp2
        go_roundw
        case rel => exact ⟨k + 1, by omega, by go_num, HG.out, hb⟩
        case measure => simp [intOf]; omega
      · clear hpk
        go_wp2_with (at_builtin; refine wpList_append_own _ rfl _ _ 26 rfl w.heap.size 2 i0 (.int .i64 0) 1 8 Tryz.underlying26 hif hz0 hz1 hz2 rfl (by decide) _ _ _ rfl (hg.out.1.alloc _) ⟨wr.heap.size, 0, none⟩ 1 1 [.int .i64 (k : Int)] rfl rfl (cell_one_new _ _ _) (by simp [Value.oneCell']) (by have := HLN.out; unfold maxLen; omega) (by have := HLN.out; omega) (by have := HB.out; simp; omega) ?_)
        intro v1 w1 hown1 hgrow1 hnil1
        have hb1 : Below w.heap.size w w1 := (hb.alloc hb.size _).grown hgrow1 (by have := HB.out; simp; omega) (fun q hq => by simp [Value.ownBlock] at hq; subst hq; exact (hg.out.1.lt ga rfl).1)
        have HG : Hid (Grow w.heap.size w1 v1 (risL P (k + 1))) := by
          show Grow _ _ _ _
          rw [HST.out]
          exact grow_next hown1 (fun h => by first | exact hnil1 h | exact absurd (hnil1.1 h).1 (by simp))
        clear hown1 hgrow1 hnil1 hg HST hx
        go_wp2
        go_roundw
        case rel => exact ⟨k + 1, by omega, by go_num, HG.out, hb1⟩
        case measure => simp [intOf]; omega
    · obtain rfl : k = 40 := by omega
      go_wp2
      go_ret
      exact ⟨_, rfl, hg.out, hb⟩
set_option maxRecDepth 100000 in
set_option maxHeartbeats 1000000 in
theorem addIn_at (q : Option Addr) (yc m : Nat) (hm : m ≤ 40) (n : Int) (b : Nat) (P : Nat → Bool) (w : World) (h : Cells w b (chi 40 P)) :
    Calls Tryz.prog 116 #[.pointer (some ⟨b, 0, none⟩), .slice q m yc, .int .i64 n] w fun e w' => e = .returned (.tuple #[]) ∧ Cells w' b (chi 40 fun j => P j || (decide (n = (j : Int)) && decide (j < m))) ∧ Only b w w' := by
  by_cases hn : 0 ≤ n ∧ n < (m : Int)
  · obtain ⟨k, rfl⟩ := Int.eq_ofNat_of_zero_le hn.1
    have hd0 : decide ((0 : Int) ≤ (k : Int)) = true := by simp
    have hd1 : decide ((k : Int) < (m : Int)) = true := by simp; omega
    have hk40 : k < 40 := by omega
    have hki : (k : Int) < 40 := by omega
    obtain ⟨c0, f0⟩ := h k _ (chi_at P hk40)
    have HC : Hid (Cells (w.setCell ⟨b, k, none⟩ (.bool true)) b (chi 40 fun j => P j || (decide (((k : Nat) : Int) = (j : Int)) && decide (j < m)))) := by
      have h1 := h.set k (.bool true)
      rw [chi_set] at h1
      rw [chi_congr (Q := fun j => if j = k then true else P j) (fun j hj => by
        by_cases e : j = k
        · subst e; simp; right; omega
        · have e' : ¬ ((k : Int) = (j : Int)) := by omega
          simp [e, e'])]
      exact h1
    clear h
    go_enter Tryz.func116, Tryz.ntmps116
    go_wp2_with fail
    refine (isBelow (k : Int) m w).mono ?_
    rw [hd0, hd1]
    rintro e _ ⟨rfl, rfl⟩
    go_wp2
    go_end0
    exact ⟨rfl, HC.out, (Only.refl _ _).set _ _⟩
  · have hd : (decide ((0 : Int) ≤ n) && decide (n < (m : Int))) = false := by simp; omega
    have HC : Hid (Cells w b (chi 40 fun j => P j || (decide (n = (j : Int)) && decide (j < m)))) := by
      show Cells _ _ _
      rw [chi_congr (Q := P) (fun j hj => by
        have : (decide (n = (j : Int)) && decide (j < m)) = false := by simp; omega
        rw [this, Bool.or_false])]
      exact h
    clear h
    go_enter Tryz.func116, Tryz.ntmps116
    go_wp2_with fail
    refine (isBelow n m w).mono ?_
    rw [hd]
    rintro e _ ⟨rfl, rfl⟩
    go_wp2
    go_end0
    exact ⟨rfl, HC.out, Only.refl _ _⟩
end Pg
end Go.Proofs.YtinanjjhkddikaaGreat

/- Contracts: the set of what may come next, two sets as one, and both sides' Nexts. -/
namespace Go.Proofs.YtinanjjhkddikaaGreat
namespace Pg
open Go.ChangeShapes Go.WideShapes Go.ChangeAt Go.RowKit St

theorem below_setCells {B b : Nat} (hb : B ≤ b) : ∀ (vs : List Value) (o : Nat) {u v : World}, Below B u v → Below B u (v.setCells b o vs)
  | [], _, _, _, h => h
  | _ :: r, o, _, _, h => below_setCells hb r (o + 1) (h.setCell hb _)
theorem size_setCells {b : Nat} : ∀ (vs : List Value) (o : Nat) (v : World), (v.setCells b o vs).heap.size = v.heap.size
  | [], _, _ => rfl
  | _ :: r, o, v => by rw [World.setCells, size_setCells r (o + 1)]; simp
/-- A result that lies in a variable of its own: an array. -/
theorem ret_cell {fn : Func} {p ty : Nat} (hres : fn.results = #[.cell p ty]) {tmps : Array Value} {w : World} {b : Nat} (hp : tmps.getD p undef = .pointer (some ⟨b, 0, none⟩)) {cs : List Value} (hc : w.rangeAt b 0 cs) {d : TypeDesc} (hu : Tryz.prog.underlying ty = some d) (hd : d.isRow = true) (hi : (Tryz.prog.info? ty).map (·.size) = some cs.length) :
    (results fn tmps).run Tryz.prog w = .ok (.agg cs.toArray) w := by
  simp only [results, hres]
  have hp' : tmps[p]?.getD undef = .pointer (some ⟨b, 0, none⟩) := by simpa using hp
  simp [hp', asAddr, run_loadVar_mid w b 0 ty cs d hc hu hd hi]
theorem zeroS : (Tryz.prog.info? 132).map (fun i => (i.zero, i.size)) = some (some (.agg (chi 40 fun _ => false).toArray), 40) := by kernel_rfl
/-- A new array of flags, none set. -/
theorem wpList_alloc_chi {w : World} {ops : Array Oper} {rest : List Oper} {o : Oper} {a : Act} {Q : Exit → Act → World → Prop} (hgd : o.guard = none) (t : TypeId) (ho : o.op = .alloc t) (n : Nat)
    (hz : (Tryz.prog.info? t).map (fun i => (i.zero, i.size)) = some (some (.agg (chi n fun _ => false).toArray), n))
    (h : wpList Tryz.prog ops Q rest (a.put o.dst (.pointer (some ⟨w.heap.size, 0, none⟩))) (w.alloc (.cells (chi n fun _ => false).toArray t))) : wpList Tryz.prog ops Q (o :: rest) a w :=
  wpList_plain hgd fun K hK => by
    have hz1 := (zero_of_info hz).1 w
    unfold Oper.wp execOp
    simp [ho, Instr.alloc, hz1, Sem.run_bind, newVar, go_sem]
    exact hK _ _ h
/-- A new array of flags, the first one set. -/
theorem wpList_build_chi {w : World} {ops : Array Oper} {rest : List Oper} {o : Oper} {a : Act} {Q : Exit → Act → World → Prop} (hgd : o.guard = none) (t : TypeId) (ho : o.op = .build t #[(0, .const (.bool true))]) (n : Nat) (hn : 0 < n)
    (hu : Tryz.prog.underlying t = some (.array n 4)) (hz : (Tryz.prog.info? t).map (fun i => (i.zero, i.size)) = some (some (.agg (chi n fun _ => false).toArray), n))
    (h : wpList Tryz.prog ops Q rest (a.put o.dst (.agg (chi n fun j => decide (j = 0)).toArray)) w) : wpList Tryz.prog ops Q (o :: rest) a w :=
  wpList_plain hgd fun K hK => by
    have hz1 := (zero_of_info hz).1 w
    obtain ⟨i0, hi, _, hz1', _⟩ := info_parts infoB
    unfold Oper.wp execOp
    simp [ho, Instr.build, hz1, Sem.run_bind, run_underlying hu]
    have hsz : ¬ ((chi n fun _ => false).toArray.size < 1) := by simp [chi_len]; omega
    have hfl : Instr.fill (fun i => some (i, 1)) (Value.agg (chi n fun _ => false).toArray).cells [(0, a.eval (Operand.const (.bool true)))] = some (chi n fun j => decide (j = 0)).toArray := by
      have h1 := chi_set (n := n) (fun _ => false) 0 true
      have h2 : (chi n fun j => if j = 0 then true else false) = chi n fun j => decide (j = 0) := chi_congr fun j _ => by by_cases e : j = 0 <;> simp [e]
      rw [h2] at h1
      rw [← h1]
      simp [Instr.fill, Value.cells, Act.eval, chi_len]
      omega
    rw [hfl]
    simpa [Result.andThen, Oper.upon] using hK _ _ h

/-- May j come next behind step k? -/
def nxB (code : List Tx.Ins) (k j : Nat) : Bool := decide (j ∈ waysF (insF code k) k) && decide (j < code.length)
theorem way_in {i : Tx.Ins} {k j : Nat} : ((j : Int) ∈ waysI i k) ↔ j ∈ waysF i k := by
  unfold waysI
  simp only [List.mem_map]
  constructor
  · rintro ⟨a, h, e⟩; rwa [show j = a by omega]
  · exact fun h => ⟨j, h, rfl⟩
theorem waysI_len (i : Tx.Ins) (k : Nat) : (waysI i k).length ≤ 2 := by
  unfold waysI waysF
  rw [List.length_map]
  split
  · simp
  · split
    · simp
    · split <;> simp
def partB (l : List Int) (m len j : Nat) : Bool := decide ((j : Int) ∈ l.take m) && decide (j < len)
theorem partB_step {l : List Int} {m : Nat} (hm : m < l.length) (len j : Nat) : (partB l m len j || (decide (l[m] = (j : Int)) && decide (j < len))) = partB l (m + 1) len j := by
  unfold partB
  rw [List.take_succ_eq_append_getElem hm]
  by_cases h1 : j < len
  · by_cases h2 : (j : Int) ∈ l.take m
    · simp only [h1, h2, decide_true, Bool.true_or, Bool.and_true]; symm; simp only [decide_eq_true_eq]; exact List.mem_append_left _ h2
    · by_cases h3 : l[m] = (j : Int)
      · simp [h1, h2, h3]
      · simp only [h1, h2, h3, decide_true, decide_false, Bool.false_or, Bool.and_true]; symm; simp only [decide_eq_false_iff_not, List.mem_append, List.mem_singleton, not_or]; exact ⟨h2, fun e => h3 e.symm⟩
  · simp [h1]
theorem ins_is {code : List Tx.Ins} {k : Nat} (hk : k < code.length) : code[k]? = some (insF code k) := by unfold insF; rw [List.getD_eq_getElem?_getD, List.getElem?_eq_getElem hk]; rfl
theorem jump_in {code : List Tx.Ins} (hok : Lay.codeOk code = true) {k : Nat} (hk : k < code.length) (h : (insF code k).1 = 11 ∨ (insF code k).1 = 12) : 0 ≤ (insF code k).2.1 ∧ (insF code k).2.1 < (code.length : Int) :=
  Lay.ok_jump hok (ins_is hk) (by rcases h with h | h <;> simp [Lay.jumpB, h])

set_option maxRecDepth 100000 in
set_option maxHeartbeats 2000000 in
theorem nextsIn_at (g yc : Nat) (code : List Tx.Ins) (hok : Lay.codeOk code = true) (k : Nat) (hk : k < code.length) (w : World) (hrow : Row w g 0 code) :
    Calls Tryz.prog 106 #[.slice (some ⟨g, 0, none⟩) code.length yc, .int .i64 k] w fun e w' => e = .returned (.agg (chi 40 (nxB code k)).toArray) ∧ Below w.heap.size w w' := by
  have hl40 := (Lay.ok_len hok).2
  obtain ⟨d0, d1, d2⟩ := hrow k _ (ins_is hk)
  have h0 : (insF code k).1 = 11 ∨ (insF code k).1 = 12 → 0 ≤ (insF code k).2.1 := fun h => (jump_in hok hk h).1
  have HNX : Hid (nxB code k = fun j => decide (j ∈ waysF (insF code k) k) && decide (j < code.length)) := rfl
  generalize insF code k = ins at *
  simp only [Nat.zero_add] at d0 d1 d2
  have hki : (k : Int) < (code.length : Int) := by omega
  obtain ⟨W, hW⟩ : ∃ W, W = (w.alloc (.cells (chi 40 fun _ => false).toArray 132)).alloc (.cells (chi 40 fun _ => false).toArray 132) := ⟨_, rfl⟩
  have hwW : Below w.heap.size w W := by rw [hW]; exact ((Below.refl _ _).alloc (Nat.le_refl _) _).alloc (by simp) _
  have lg := cell_lt d0
  have e0 := (hwW.cell (p := ⟨g, k * 3, none⟩) lg).trans d0
  have e1 := (hwW.cell (p := ⟨g, k * 3 + 1, none⟩) lg).trans d1
  have e2 := (hwW.cell (p := ⟨g, k * 3 + 2, none⟩) lg).trans d2
  rw [hW] at e0 e1 e2
  have C0 : Hid (Cells W w.heap.size (chi 40 fun _ => false)) := by
    show Cells _ _ _
    rw [hW]; exact (Cells.new w _ rfl _ _).alloc _
  have C1 : Hid (Cells W (w.heap.size + 1) (chi 40 fun _ => false)) := by
    show Cells _ _ _
    rw [hW]; exact Cells.new (w.alloc _) _ (by simp) _ _
  have HW : Hid (W = (w.alloc (.cells (chi 40 fun _ => false).toArray 132)).alloc (.cells (chi 40 fun _ => false).toArray 132)) := hW
  clear hW d0 d1 d2 hrow
  go_enter Tryz.func106, Tryz.ntmps106
  go_wp2_with (with_reducible refine wpList_alloc_chi rfl 132 rfl 40 zeroS ?_)
  rw [← HW.out]
  clear HW e0 e1 e2
  refine (waysFrom_at ins k (by omega) h0 W).mono ?_
  rintro e w1 ⟨v, rfl, hsi, hb1⟩
  have hw1 : Below w.heap.size w w1 := below_over hwW hb1
  have HS1 : Hid (SI true W.heap.size w1 v (waysI ins k)) := hsi
  obtain ⟨z, cz, rfl⟩ := hsi.form
  have C0' : Hid (Cells w1 w.heap.size (chi 40 fun _ => false)) := C0.out.on hb1
  have C1' : Hid (Cells w1 (w.heap.size + 1) (chi 40 fun _ => false)) := C1.out.on hb1
  have HWZ : Hid (w.heap.size + 2 ≤ W.heap.size) := by
    have h1 := C1.out 0 _ (chi_at _ (by decide))
    have := cell_lt h1.1
    show _ ≤ _
    simp at this; omega
  have HL2 : (waysI ins k).length ≤ 2 := waysI_len ins k
  have HIN : Hid (∀ j : Nat, (j : Int) ∈ waysI ins k ↔ j ∈ waysF ins k) := fun j => way_in
  generalize waysI ins k = l at *
  clear hsi hb1 hwW C0 C1 h0
  go_wp2_with fail
  go_loopw [15] (fun i wr => ∃ m : Nat, m ≤ l.length ∧ i = .int .i64 m ∧ Hid (SI true W.heap.size wr (.slice z l.length cz) l) ∧ Hid (Cells wr w.heap.size (chi 40 fun _ => false)) ∧ Hid (Cells wr (w.heap.size + 1) (chi 40 (partB l m code.length))) ∧ Below w.heap.size w wr) (fun i _ => l.length - (intOf i).toNat)
  case atStart =>
    refine ⟨0, Nat.zero_le _, rfl, HS1.out, C0'.out, ?_, hw1⟩
    show Cells _ _ _
    rw [chi_congr (Q := fun _ => false) (fun j hj => by simp [partB])]
    exact C1'.out
  case round =>
    clear HS1 C0' C1' hw1
    obtain ⟨m, hm, rfl, hs, hc0, hc1, hb⟩ := hrel
    by_cases hlt : m < l.length
    · obtain ⟨bz, oz, rfl, hB, c0⟩ := Arr.get hs.out hlt
      have c0' : wr.cell? ⟨bz, oz + m, none⟩ = some (.int .i64 l[m]) := by have h := c0; unfold IntAt at h; rw [Nat.mul_one] at h; exact h
      have HP : Hid (∀ j, (partB l m code.length j || (decide (l[m] = (j : Int)) && decide (j < code.length))) = partB l (m + 1) code.length j) := fun j => partB_step hlt _ j
      generalize l[m] = x at *
      have hmi : (m : Int) < (l.length : Int) := by omega
      clear c0
      go_wp2_with fail
      refine (addIn_at (some ⟨g, 0, none⟩) yc code.length hl40 x (w.heap.size + 1) (partB l m code.length) wr hc1.out).mono ?_
      rintro e w2 ⟨rfl, hc2, ho⟩
      have hb2 : Below w.heap.size w w2 := hb.trans (ho.below (Nat.le_succ _))
      have HC2 : Hid (Cells w2 (w.heap.size + 1) (chi 40 (partB l (m + 1) code.length))) := by
        show Cells _ _ _
        rw [← chi_congr (fun j hj => HP.out j)]
        exact hc2
      have HC0 : Hid (Cells w2 w.heap.size (chi 40 fun _ => false)) := fun i x hx => by
        obtain ⟨h1, h2⟩ := hc0.out i x hx
        have hbk := ho.block w.heap.size (by omega)
        exact ⟨(World.cell?_of_block (w := wr) hbk).trans h1, (World.frozen?_of_block (w := wr) hbk).trans h2⟩
      have HS2 : Hid (SI true W.heap.size w2 (.slice (some ⟨bz, oz, none⟩) l.length cz) l) := SI.on hs.out ⟨by rw [ho.size]; exact Nat.le_refl _, fun q hq _ => ho.block q (by have := HWZ.out; omega)⟩
      clear hc2 ho hc0 hc1 hs HP hb
      go_wp2
      go_roundw
      case rel => exact ⟨m + 1, by omega, by go_num, HS2.out, HC0.out, HC2.out, hb2⟩
      case measure => simp [intOf]; omega
    · have HE : Hid (chi 40 (partB l m code.length) = chi 40 (nxB code k)) := by
        show _ = _
        rw [HNX.out]
        refine chi_congr fun j hj => ?_
        unfold partB
        rw [List.take_of_length_le (by omega)]
        congr 1
        exact decide_eq_decide.2 (HIN.out j)
      have HC1 : Hid (Cells wr (w.heap.size + 1) (chi 40 (nxB code k))) := by show Cells _ _ _; rw [← HE.out]; exact hc1.out
      have HC2 : Hid (Cells (wr.setCells w.heap.size 0 (chi 40 (nxB code k))) w.heap.size (chi 40 (nxB code k))) := hc0.out.put (by rw [chi_len, chi_len])
      clear hc1 HE
      have HCL : Hid ((chi 40 (nxB code k)).length = 40) := chi_len _ _
      have HCO : Hid (∀ v ∈ chi 40 (nxB code k), v.oneCell' = true) := chi_one _ _
      have hmi : ¬ (m : Int) < (l.length : Int) := by omega
      have hb2 : Below w.heap.size w (wr.setCells w.heap.size 0 (chi 40 (nxB code k))) := below_setCells (Nat.le_refl _) _ _ hb
      clear hb
      generalize hcs : chi 40 (nxB code k) = cs at *
      have HCS : Hid (chi 40 (nxB code k) = cs) := hcs
      clear hcs
      go_wp2_with (first
        | (with_reducible refine wpList_load_mid rfl 132 (.tmp 5) rfl (w.heap.size + 1) 0 (by simp [Act.eval, Act.put]) cs _ HC1.out.range Tryz.underlying132 rfl (by rw [infoS, HCL.out]) ?_)
        | (with_reducible refine wpList_store_mid rfl 132 (.tmp 4) (.tmp 23) rfl w.heap.size 0 cs.toArray (by simp [Act.eval, Act.put]) (by simp [Act.eval, Act.put]) (hc0.out.there (by rw [chi_len]; simpa using HCL.out)) (by rw [infoS]; simpa using HCL.out.symm) (all_oneCell_toArray HCO.out) ?_))
      (try simp only [Exit.inBlock, Exit.then])
      refine bodyPost_ret (ret_cell rfl rfl HC2.out.range Tryz.underlying132 rfl (by rw [infoS, HCL.out])) rfl ?_
      exact ⟨by rw [HCS.out], hb2⟩
set_option maxRecDepth 100000 in
set_option maxHeartbeats 2000000 in
theorem withS_at (P Q : Nat → Bool) (w : World) :
    Calls Tryz.prog 105 #[.agg (chi 40 P).toArray, .agg (chi 40 Q).toArray] w fun e w' => e = .returned (.agg (chi 40 fun j => P j || Q j).toArray) ∧ Below w.heap.size w w' := by
  obtain ⟨W, hW⟩ : ∃ W, W = ((w.alloc (.cells (chi 40 P).toArray 132)).alloc (.cells (chi 40 Q).toArray 132)).alloc (.cells (chi 40 fun _ => false).toArray 132) := ⟨_, rfl⟩
  have hwW : Below w.heap.size w W := by rw [hW]; exact (((Below.refl _ _).alloc (Nat.le_refl _) _).alloc (by simp) _).alloc (by simp; omega) _
  have C0 : Hid (Cells W w.heap.size (chi 40 P)) := by show Cells _ _ _; rw [hW]; exact ((Cells.new w _ rfl _ _).alloc _).alloc _
  have C1 : Hid (Cells W (w.heap.size + 1) (chi 40 Q)) := by show Cells _ _ _; rw [hW]; exact (Cells.new (w.alloc _) _ (by simp) _ _).alloc _
  have C2 : Hid (Cells W (w.heap.size + 1 + 1) (chi 40 fun _ => false)) := by show Cells _ _ _; rw [hW]; exact Cells.new ((w.alloc _).alloc _) _ (by simp) _ _
  have C1' : Hid (Cells (((w.alloc (.cells (chi 40 P).toArray 132)).alloc (.cells (chi 40 Q).toArray 132)).alloc (.cells (chi 40 fun _ => false).toArray 132)) (w.heap.size + 1) (chi 40 Q)) := (Cells.new (w.alloc _) _ (by simp) _ _).alloc _
  have HW : Hid (W = ((w.alloc (.cells (chi 40 P).toArray 132)).alloc (.cells (chi 40 Q).toArray 132)).alloc (.cells (chi 40 fun _ => false).toArray 132)) := hW
  clear hW
  go_enter Tryz.func105, Tryz.ntmps105
  go_wp2_with (first
    | (with_reducible refine wpList_alloc_chi rfl 132 rfl 40 zeroS ?_)
    | (with_reducible refine wpList_load_mid rfl 132 (.tmp 3) rfl (w.heap.size + 1) 0 (by simp [Act.eval, Act.put]) (chi 40 Q) _ C1'.out.range Tryz.underlying132 rfl (by rw [infoS, chi_len]) ?_))
  rw [← HW.out]
  clear HW C1'
  go_loopw [8] (fun i wr => ∃ k : Nat, k ≤ 40 ∧ i = .int .i64 k ∧ Hid (Cells wr w.heap.size (chi 40 fun j => P j || (Q j && decide (j < k)))) ∧ Hid (Cells wr (w.heap.size + 1 + 1) (chi 40 fun _ => false)) ∧ Below w.heap.size w wr) (fun i _ => 40 - (intOf i).toNat)
  case atStart =>
    refine ⟨0, Nat.zero_le _, rfl, ?_, C2.out, hwW⟩
    show Cells _ _ _
    rw [chi_congr (Q := P) (fun j hj => by simp)]
    exact C0.out
  case round =>
    clear C0 C1 C2 hwW
    obtain ⟨k, hk, rfl, hc, hc2, hb⟩ := hrel
    by_cases hlt : k < 40
    · have hx := run_index_chi Tryz.underlying132 Q hlt wr
      have hki : (k : Int) < 40 := by omega
      obtain ⟨c0, f0⟩ := hc.out k _ (chi_at _ hlt)
      have hdk : decide (k < k) = false := by simp
      simp only [hdk, Bool.and_false, Bool.or_false] at c0
      have HC : Hid (∀ b, b = (P k || Q k) → Cells (wr.setCell ⟨w.heap.size, k, none⟩ (.bool b)) w.heap.size (chi 40 fun j => P j || (Q j && decide (j < k + 1)))) := fun b hb => by
        have h1 := hc.out.set k (.bool b)
        rw [chi_set] at h1
        rw [chi_congr (Q := fun j => if j = k then b else P j || (Q j && decide (j < k))) (fun j hj => by
          by_cases e : j = k
          · subst e; simp [hb]
          · have : decide (j < k + 1) = decide (j < k) := by rw [decide_eq_decide]; omega
            simp [e, this])]
        exact h1
      have HC2 : Hid (∀ b, Cells (wr.setCell ⟨w.heap.size, k, none⟩ (.bool b)) (w.heap.size + 1 + 1) (chi 40 fun _ => false)) := fun b => hc2.out.far _ _ (by simp; omega)
      have HB : Hid (∀ b, Below w.heap.size w (wr.setCell ⟨w.heap.size, k, none⟩ (.bool b))) := fun b => hb.setCell (Nat.le_refl _) _
      clear hc hc2 hdk
      cases hp : P k
      · rw [hp] at c0 HC
        clear hp
        generalize Q k = q at *
        go_wp2
        go_roundw
        case rel => exact ⟨k + 1, by omega, by go_num, HC.out _ (by simp), HC2.out _, HB.out _⟩
        case measure => simp [intOf]; omega
      · rw [hp] at c0 HC
        clear hp
        generalize Q k = q at *
        go_wp2
        go_roundw
        case rel => exact ⟨k + 1, by omega, by go_num, HC.out _ (by simp), HC2.out _, HB.out _⟩
        case measure => simp [intOf]; omega
    · have HC0 : Hid (Cells wr w.heap.size (chi 40 fun j => P j || Q j)) := by
        show Cells _ _ _
        rw [chi_congr (Q := fun j => P j || (Q j && decide (j < k))) (fun j hj => by
          have : decide (j < k) = true := by simp; omega
          rw [this, Bool.and_true])]
        exact hc.out
      have HC2 : Hid (Cells (wr.setCells (w.heap.size + 1 + 1) 0 (chi 40 fun j => P j || Q j)) (w.heap.size + 1 + 1) (chi 40 fun j => P j || Q j)) := hc2.out.put (by rw [chi_len, chi_len])
      have HCL : Hid ((chi 40 fun j => P j || Q j).length = 40) := chi_len _ _
      have HCO : Hid (∀ v ∈ (chi 40 fun j => P j || Q j), v.oneCell' = true) := chi_one _ _
      have hki : ¬ (k : Int) < 40 := by omega
      have hb2 : Below w.heap.size w (wr.setCells (w.heap.size + 1 + 1) 0 (chi 40 fun j => P j || Q j)) := below_setCells (by omega) _ _ hb
      clear hb hc
      generalize hcs : (chi 40 fun j => P j || Q j) = cs at *
      have HCS : Hid ((chi 40 fun j => P j || Q j) = cs) := hcs
      clear hcs
      go_wp2_with (first
        | (with_reducible refine wpList_load_mid rfl 132 (.tmp 2) rfl w.heap.size 0 (by simp [Act.eval, Act.put]) cs _ HC0.out.range Tryz.underlying132 rfl (by rw [infoS, HCL.out]) ?_)
        | (with_reducible refine wpList_store_mid rfl 132 (.tmp 4) (.tmp 21) rfl (w.heap.size + 1 + 1) 0 cs.toArray (by simp [Act.eval, Act.put]) (by simp [Act.eval, Act.put]) (hc2.out.there (by rw [chi_len]; simpa using HCL.out)) (by rw [infoS]; simpa using HCL.out.symm) (all_oneCell_toArray HCO.out) ?_))
      (try simp only [Exit.inBlock, Exit.then])
      refine bodyPost_ret (ret_cell rfl rfl HC2.out.range Tryz.underlying132 rfl (by rw [infoS, HCL.out])) rfl ?_
      exact ⟨by rw [HCS.out], hb2⟩
end Pg
end Go.Proofs.YtinanjjhkddikaaGreat

/- Contracts: both sides' Nexts. -/
namespace Go.Proofs.YtinanjjhkddikaaGreat
namespace Pg
open Go.ChangeShapes Go.WideShapes Go.ChangeAt Go.RowKit St

/-- Is it a place of code that is right? -/
def atB (l : List Tx.Ins) (n : Int) : Bool := Lay.codeOk l && (decide (0 ≤ n) && decide (n < (l.length : Int)))
def nexA (l : List Tx.Ins) (n : Int) : List Int := if atB l n then risL (nxB l n.toNat) 40 else []
theorem nexA_len (l : List Tx.Ins) (n : Int) : (nexA l n).length ≤ 41 := by
  unfold nexA
  split
  · have := risL_len (nxB l n.toNat) 40; omega
  · simp
theorem nextsF_rise (code : List Tx.Ins) (k : Nat) : Rise (nextsF code k) := by
  unfold nextsF
  dsimp only
  have h : ∀ b : Bool, Rise (if b = true then [(k : Int) + 1] else []) := fun b => by cases b <;> simp
  by_cases hc : (insF code k).1 ≠ 11 ∧ (insF code k).1 ≠ 20 ∧ k + 1 < code.length
  · rw [if_pos hc]
    split
    · exact putL_rise (by simp) _
    · simp
  · rw [if_neg hc]
    split
    · exact putL_rise (by simp) _
    · simp
theorem nextsF_mem {code : List Tx.Ins} (hok : Lay.codeOk code = true) {k : Nat} (hk : k < code.length) (x : Int) : x ∈ nextsF code k ↔ ∃ j : Nat, nxB code k j = true ∧ x = (j : Int) := by
  have hj := fun h => jump_in hok hk h
  unfold nextsF nxB waysF
  dsimp only
  generalize insF code k = i at *
  obtain ⟨op, A, B⟩ := i
  dsimp only at *
  by_cases h20 : op = 20
  · subst h20; simp
  · by_cases h11 : op = 11
    · subst h11
      obtain ⟨a0, a1⟩ := hj (.inl rfl)
      simp [mem_putL]
      constructor
      · rintro rfl; exact ⟨x.toNat, by omega, by omega⟩
      · rintro ⟨j, h1, h2⟩; omega
    · by_cases h12 : op = 12
      · subst h12
        obtain ⟨a0, a1⟩ := hj (.inr rfl)
        by_cases hl : k + 1 < code.length
        · simp [mem_putL, hl]
          constructor
          · rintro (rfl | rfl)
            · exact ⟨k + 1, ⟨.inr rfl, hl⟩, by omega⟩
            · exact ⟨x.toNat, ⟨.inl rfl, by omega⟩, by omega⟩
          · rintro ⟨j, ⟨h1 | h1, h2⟩, h3⟩
            · right; omega
            · left; omega
        · simp [mem_putL, hl]
          constructor
          · rintro rfl; exact ⟨x.toNat, ⟨.inl rfl, by omega⟩, by omega⟩
          · rintro ⟨j, ⟨h1 | h1, h2⟩, h3⟩ <;> omega
      · by_cases hl : k + 1 < code.length
        · simp [h20, h11, h12, hl]
          constructor
          · rintro rfl; exact ⟨k + 1, ⟨rfl, hl⟩, by omega⟩
          · rintro ⟨j, ⟨h1, h2⟩, h3⟩; omega
        · simp [h20, h11, h12, hl]
theorem nexts_ris {code : List Tx.Ins} (hok : Lay.codeOk code = true) {k : Nat} (hk : k < code.length) : nextsF code k = risL (nxB code k) 40 := by
  have hl := (Lay.ok_len hok).2
  refine rise_ext (nextsF_rise code k) (risL_rise _ _) fun x => ?_
  rw [nextsF_mem hok hk, risL_mem]
  constructor
  · rintro ⟨j, h, e⟩
    refine ⟨j, ?_, h, e⟩
    unfold nxB at h
    simp only [Bool.and_eq_true, decide_eq_true_eq] at h
    omega
  · rintro ⟨j, _, h, e⟩; exact ⟨j, h, e⟩

end Pg
end Go.Proofs.YtinanjjhkddikaaGreat
