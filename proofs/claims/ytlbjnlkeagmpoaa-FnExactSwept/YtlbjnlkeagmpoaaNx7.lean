/- Contracts: what is reached: both sides' Reached. -/
import Derived.Test.YtlbjnlkeagmpoaaNx6
namespace Go.Proofs.Ytlbjnlkeagmpoaa
namespace Pg
open Go.ChangeShapes Go.WideShapes Go.ChangeAt Go.RowKit St

theorem rise_sub : ∀ (r l : List Int), Rise l → Rise r → (∀ x ∈ l, x ∈ r) → l.Sublist r
  | _, [], _, _, _ => List.nil_sublist _
  | [], x :: l, _, _, h => absurd (h x List.mem_cons_self) (by simp)
  | y :: r, x :: l, hl, hr, h => by
    obtain ⟨a1, b1⟩ := List.pairwise_cons.1 hl
    obtain ⟨a2, b2⟩ := List.pairwise_cons.1 hr
    rcases List.mem_cons.1 (h x List.mem_cons_self) with e | e
    · subst e
      refine List.Sublist.cons_cons x (rise_sub r l b1 b2 fun z hz => ?_)
      rcases List.mem_cons.1 (h z (List.mem_cons_of_mem _ hz)) with e | e
      · have := a1 z hz; omega
      · exact e
    · have hyx := a2 x e
      refine (rise_sub r (x :: l) hl b2 fun z hz => ?_).cons y
      rcases List.mem_cons.1 (h z hz) with e' | e'
      · rcases List.mem_cons.1 hz with e2 | e2
        · omega
        · have := a1 z e2; omega
      · exact e'
theorem rise_len : ∀ (l : List Int) (a b : Int), Rise l → (∀ x ∈ l, a ≤ x ∧ x < b) → a ≤ b → (l.length : Int) ≤ b - a
  | [], a, b, _, _, hab => by simp; omega
  | x :: l, a, b, h, hx, _ => by
    obtain ⟨h1, h2⟩ := List.pairwise_cons.1 h
    have hxx := hx x List.mem_cons_self
    have := rise_len l (x + 1) b h2 (fun z hz => ⟨by have := h1 z hz; omega, (hx z (List.mem_cons_of_mem _ hz)).2⟩) (by omega)
    simp only [List.length_cons]
    omega
theorem put_take : ∀ {l : List Int} {n x : Int} {i : Nat}, Rise l → x ∈ (putL l n).take i → x ∈ l.take i ∨ (x = n ∧ n ∉ l)
  | [], n, x, i, _, h => by
    have := List.mem_of_mem_take h
    simp [putL] at this
    exact .inr ⟨this, by simp⟩
  | y :: l, n, x, 0, _, h => by simp at h
  | y :: l, n, x, i + 1, hr, h => by
    obtain ⟨h1, h2⟩ := List.pairwise_cons.1 hr
    unfold putL at h
    split at h
    · rename_i hy
      rw [List.take_succ_cons, List.mem_cons] at h
      rw [List.take_succ_cons, List.mem_cons, List.mem_cons]
      rcases h with h | h
      · exact .inl (.inl h)
      · rcases put_take h2 h with h | ⟨h, h'⟩
        · exact .inl (.inr h)
        · refine .inr ⟨h, fun e => ?_⟩
          rcases e with e | e
          · omega
          · exact h' e
    · split at h
      · exact .inl h
      · rename_i hy1 hy2
        rw [List.take_succ_cons, List.mem_cons] at h
        rcases h with h | h
        · refine .inr ⟨h, fun e => ?_⟩
          rcases List.mem_cons.1 e with e | e
          · omega
          · have := h1 n e; omega
        · exact .inl ((List.take_subset_take_left (y :: l) (Nat.le_succ i)) h)
theorem puts_take : ∀ (m : List Int) {l : List Int} {x : Int} {i : Nat}, Rise l → x ∈ (m.foldl putL l).take i → x ∈ l.take i ∨ x ∉ l
  | [], l, x, i, _, h => .inl h
  | n :: m, l, x, i, hr, h => by
    rw [List.foldl_cons] at h
    rcases puts_take m (putL_rise hr n) h with h | h
    · rcases put_take hr h with h | ⟨h, h'⟩
      · exact .inl h
      · rw [h]; exact .inr h'
    · exact .inr fun e => h (mem_putL.2 (.inl e))
theorem putL_ge (n : Int) : ∀ l : List Int, l.length ≤ (putL l n).length
  | [] => by simp [putL]
  | y :: l => by
    have := putL_ge n l
    unfold putL
    split
    · simp only [List.length_cons]; omega
    · split <;> simp
theorem puts_ge : ∀ (m l : List Int), l.length ≤ (m.foldl putL l).length
  | [], _ => Nat.le_refl _
  | n :: m, l => Nat.le_trans (putL_ge n l) (puts_ge m (putL l n))
/-- Where the specification stands: a list of some that are reached. -/
structure StR (code : List Tx.Ins) (out : List Int) : Prop where
  rise : Rise out
  zero : (0 : Int) ∈ out
  sub : ∀ x ∈ out, ∃ j : Nat, Rch code j ∧ x = (j : Int)
def ClosedL (code : List Tx.Ins) (out : List Int) : Prop := ∀ a : Nat, (a : Int) ∈ out → ∀ j, nxB code a j = true → (j : Int) ∈ out
structure MidR (code : List Tx.Ins) (o out : List Int) (i : Nat) : Prop where
  st : StR code out
  up : ∀ x ∈ o, x ∈ out
  done : ∀ a : Nat, (a : Int) ∈ o → (a : Int) ∈ out.take i → ∀ j, nxB code a j = true → (j : Int) ∈ out
theorem StR.len {code : List Tx.Ins} (hok : Lay.codeOk code = true) {out : List Int} (h : StR code out) : out.length ≤ code.length := by
  have := rise_len out 0 code.length h.rise (fun x hx => by
    obtain ⟨j, hj, rfl⟩ := h.sub x hx
    have := hj.lt (Lay.ok_len hok).1
    omega) (by omega)
  omega
theorem StR.start (code : List Tx.Ins) : StR code [0] := ⟨by simp, by simp, fun x hx => ⟨0, .zero, by simpa using hx⟩⟩
theorem MidR.start {code : List Tx.Ins} {out : List Int} (h : StR code out) : MidR code out out 0 := ⟨h, fun _ h => h, fun a _ h => by simp at h⟩
theorem MidR.step {code : List Tx.Ins} (hok : Lay.codeOk code = true) {o out : List Int} {i : Nat} (h : MidR code o out i) (hi : i < out.length) {c : Nat} (hc : out[i] = (c : Int)) :
    MidR code o ((nextsF code c).foldl putL out) (i + 1) := by
  have hcm : (c : Int) ∈ out := by rw [← hc]; exact List.getElem_mem hi
  obtain ⟨c', hrc, he⟩ := h.st.sub _ hcm
  obtain rfl : c = c' := by omega
  have hcl := hrc.lt (Lay.ok_len hok).1
  obtain ⟨hr, hm⟩ := foldl_put (nextsF code c) out h.st.rise
  refine ⟨⟨hr, (hm 0).2 (.inr h.st.zero), fun x hx => ?_⟩, fun x hx => (hm x).2 (.inr (h.up x hx)), fun a ha ht j hj => ?_⟩
  · rcases (hm x).1 hx with hx | hx
    · obtain ⟨j, h1, rfl⟩ := (nextsF_mem hok hcl x).1 hx
      exact ⟨j, .step hrc h1, rfl⟩
    · exact h.st.sub x hx
  · rcases puts_take _ h.st.rise ht with ht | ht
    · rw [List.take_succ_eq_append_getElem hi, List.mem_append, List.mem_singleton] at ht
      rcases ht with ht | ht
      · exact (hm _).2 (.inr (h.done a ha ht j hj))
      · rw [hc] at ht
        obtain rfl : a = c := by omega
        exact (hm _).2 (.inl ((nextsF_mem hok hcl _).2 ⟨j, hj, rfl⟩))
    · exact absurd (h.up _ ha) ht
theorem closed_all {code : List Tx.Ins} {out : List Int} (h : StR code out) (hc : ClosedL code out) {j : Nat} (hj : Rch code j) : (j : Int) ∈ out :=
  Rch.least (S := fun j => (j : Int) ∈ out) h.zero hc hj
/-- A round more. -/
theorem MidR.ends {code : List Tx.Ins} {o out : List Int} {i k : Nat} (h : MidR code o out i) (hi : ¬ i < out.length) (hs : StR code o) (hk : ClosedL code o ∨ k < o.length) : ClosedL code out ∨ k + 1 < out.length := by
  have hsub := rise_sub out o hs.rise h.st.rise h.up
  have hle := hsub.length_le
  have hdone : ∀ a : Nat, (a : Int) ∈ o → ∀ j, nxB code a j = true → (j : Int) ∈ out := fun a ha j hj => h.done a ha (by rw [List.take_of_length_le (by omega)]; exact h.up _ ha) j hj
  rcases Nat.lt_or_ge o.length out.length with hl | hl
  · rcases hk with hk | hk
    · left
      intro a ha j hj
      obtain ⟨a', hra, e⟩ := h.st.sub _ ha
      obtain rfl : a = a' := by omega
      exact h.up _ (closed_all hs hk (.step hra hj))
    · right; omega
  · have e := hsub.eq_of_length (by omega)
    left
    intro a ha
    exact hdone a (by rw [e]; exact ha)
theorem StR.ends {code : List Tx.Ins} (hok : Lay.codeOk code = true) {out : List Int} (h : StR code out) (hc : ClosedL code out ∨ code.length < out.length) : out = risL (rchB code) 40 := by
  have hl := Lay.ok_len hok
  have hcl : ClosedL code out := by
    rcases hc with hc | hc
    · exact hc
    · have := h.len hok; omega
  refine rise_ext h.rise (risL_rise _ _) fun x => ?_
  rw [risL_mem]
  constructor
  · intro hx
    obtain ⟨j, hj, rfl⟩ := h.sub x hx
    exact ⟨j, by have := hj.lt hl.1; omega, rchB_iff.2 hj, rfl⟩
  · rintro ⟨j, _, hj, rfl⟩
    exact closed_all h hcl (rchB_iff.1 hj)
set_option maxRecDepth 100000 in
set_option maxHeartbeats 4000000 in
theorem l9Reached_at (g yc : Nat) (code : List Tx.Ins) (hok : Lay.codeOk code = true) (w : World) (hrow : Row w g 0 code) :
    Calls Try.prog 49 #[.slice (some ⟨g, 0, none⟩) code.length yc] w fun e w' => ∃ v, e = .returned v ∧ Lst w' v (risL (rchB code) 40) ∧ Below w.heap.size w w' := by
  have hl40 := (Lay.ok_len hok).2
  have lg : g < w.heap.size := cell_lt (hrow 0 _ (ins_is (Lay.ok_len hok).1)).1
  have HR : Hid (Row w g 0 code) := hrow
  have HOK : Hid (Lay.codeOk code = true) := hok
  have HG0 : Hid (Lst (w.alloc (.cells #[.int .i64 0] 2)) (.slice (some ⟨w.heap.size, 0, none⟩) 1 1) [0]) := (grow_lit1 w 0).lst
  have hb0 : Below w.heap.size w (w.alloc (.cells #[.int .i64 0] 2)) := (Below.refl _ _).alloc (Nat.le_refl _) _
  clear hrow hok
  go_enter Try.func49, Try.ntmps49
  go_wp2_with fail
  go_loopw [3, 4] (fun v i wr => ∃ (k : Nat) (out : List Int), k ≤ code.length ∧ i = .int .i64 k ∧ Hid (StR code out) ∧ Hid (ClosedL code out ∨ k < out.length) ∧ Hid (Lst wr v out) ∧ Below w.heap.size w wr) (fun _ i _ => code.length - (intOf i).toNat)
  case atStart => exact ⟨0, [0], Nat.zero_le _, rfl, StR.start code, .inr (by simp), HG0.out, hb0⟩
  case round =>
    clear HG0 hb0
    obtain ⟨k, o, hk, rfl, hst, hcl, hls, hb⟩ := hrel
    obtain ⟨gv, cv, rfl⟩ := hls.out.form
    by_cases hlt : k < code.length
    · have hki : (k : Int) < (code.length : Int) := by omega
      go_wp2_with fail
      go_loopw [3, 5] (fun v i wr => ∃ (q : Nat) (out : List Int), q ≤ out.length ∧ i = .int .i64 q ∧ Hid (MidR code o out q) ∧ Hid (Lst wr v out) ∧ Below w.heap.size w wr) (fun _ i _ => 41 - (intOf i).toNat)
      case atStart => exact ⟨0, o, Nat.zero_le _, rfl, MidR.start hst.out, hls.out, hb⟩
      case round =>
        clear hls hb
        obtain ⟨q, out, hq, rfl, hmid, hls, hb⟩ := hrel
        have hlo := hmid.out.st.len HOK.out
        by_cases hqt : q < out.length
        · have hqi : (q : Int) < (out.length : Int) := by omega
          obtain ⟨gw, cw, rfl, hcw, hgw, hrw⟩ := hls.out
          have c0 := hrw q _ (List.getElem?_eq_getElem hqt)
          rw [Nat.zero_add] at c0
          obtain ⟨c, hrc, hce⟩ := hmid.out.st.sub _ (List.getElem_mem hqt)
          have hcc : c < code.length := hrc.lt (Lay.ok_len HOK.out).1
          have HMN : Hid (MidR code o ((nextsF code c).foldl putL out) (q + 1)) := hmid.out.step HOK.out hqt hce
          rw [hce] at c0
          clear hce hrw hrc hmid
          go_wp2_with fail
          refine (l9Nexts_at g yc code (by omega) c hcc wr (HR.out.on hb)).mono ?_
          rintro e w2 ⟨v2, rfl, hls2, hb2⟩
          obtain ⟨gn, cn, rfl, hcn, hgn, hrn⟩ := hls2
          have HLO : Hid (Lst w2 (.slice (some ⟨gw, 0, none⟩) out.length cw) out) := hls.out.on hb2
          have HRN : Hid (IRow w2 gn 0 (nextsF code c)) := hrn
          have hw2 : Below w.heap.size w w2 := below_over hb hb2
          have hn40 : (nextsF code c).length ≤ 41 := by rw [nexts_ris HOK.out hcc]; have := risL_len (nxB code c) 40; omega
          clear hb2 hrn hls hb c0 hcw hgw
          generalize nextsF code c = ns at *
          go_wp2_with fail
          go_loopw [3, 7] (fun v i wr => ∃ (m : Nat), m ≤ ns.length ∧ i = .int .i64 m ∧ Hid (Lst wr v ((ns.take m).foldl putL out)) ∧ Below w2.heap.size w2 wr) (fun _ i _ => ns.length - (intOf i).toNat)
          case atStart => exact ⟨0, Nat.zero_le _, rfl, HLO.out, Below.refl _ _⟩
          case round =>
            clear HLO
            obtain ⟨m, hm, rfl, hls, hb⟩ := hrel
            by_cases hmt : m < ns.length
            · have hmi : (m : Int) < (ns.length : Int) := by omega
              have c0 := (HRN.out.on hb) m _ (List.getElem?_eq_getElem hmt)
              rw [Nat.zero_add] at c0
              have HFO : Hid ((ns.take (m + 1)).foldl putL out = putL ((ns.take m).foldl putL out) ns[m]) := by
                show _ = _
                rw [List.take_succ_eq_append_getElem hmt, List.foldl_append]; rfl
              have hfl := foldl_put_len (ns.take m) out
              rw [List.length_take] at hfl
              obtain ⟨gq, cq, rfl⟩ := hls.out.form
              generalize ns[m] = y at *
              generalize (ns.take m).foldl putL out = cur at *
              go_wp2_with fail
              refine (l1Put cur (.slice (some ⟨gq, 0, none⟩) cur.length cq) y (by omega) wr hls.out).mono ?_
              rintro e w3 ⟨v3, rfl, hl3, hb3⟩
              have hw3 : Below w2.heap.size w2 w3 := below_over hb hb3
              have HL3 : Hid (Lst w3 v3 ((ns.take (m + 1)).foldl putL out)) := by show Lst _ _ _; rw [HFO.out]; exact hl3
              clear hl3 hb3 hls hb c0 HFO
              go_wp2
              go_roundw
              case rel => exact ⟨m + 1, by omega, by go_num, HL3.out, hw3⟩
              case measure => simp [intOf]; omega
            · have hmi : ¬ (m : Int) < (ns.length : Int) := by omega
              have HTK : Hid (ns.take m = ns) := List.take_of_length_le (by omega)
              have HLE := hls.out
              rw [HTK.out] at HLE
              have HLF : Hid (Lst wr _ (ns.foldl putL out)) := HLE
              have hbF : Below w.heap.size w wr := below_over hw2 hb
              have HQL : Hid (q + 1 ≤ (ns.foldl putL out).length) := by
                show _ ≤ _
                have := puts_ge ns out
                omega
              clear HLE hls hb HTK
              go_wp2
              go_roundw
              case rel => exact ⟨q + 1, _, HQL.out, by go_num, HMN.out, HLF.out, hbF⟩
              case measure => simp [intOf]; omega
        · have hqi : ¬ (q : Int) < (out.length : Int) := by omega
          have HNX : Hid (ClosedL code out ∨ k + 1 < out.length) := hmid.out.ends hqt hst.out hcl.out
          have HST : Hid (StR code out) := hmid.out.st
          obtain ⟨gw, cw, rfl⟩ := hls.out.form
          clear hmid
          go_wp2
          go_roundw
          case rel => exact ⟨k + 1, out, by omega, by go_num, HST.out, HNX.out, hls.out, hb⟩
          case measure => simp [intOf]; omega
    · obtain rfl : k = code.length := by omega
      have hki : ¬ (code.length : Int) < (code.length : Int) := by omega
      have HE : Hid (o = risL (rchB code) 40) := hst.out.ends HOK.out hcl.out
      clear hst hcl
      go_wp2
      go_ret
      exact ⟨_, rfl, by rw [← HE.out]; exact hls.out, hb⟩
end Pg
end Go.Proofs.Ytlbjnlkeagmpoaa
