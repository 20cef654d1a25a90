/- Contracts: rows of steps held against each other; the program's FoldedAll. -/
import Derived.Test.YthabenjodhjgiaaLk0
import Derived.Laws.StructEq
import Derived.Deep.LoopGhost
namespace Go.Proofs.Ythabenjodhjgiaa
namespace Pg
open Go.ChangeShapes Go.WideShapes Go.ChangeAt Go.RowKit St Wd

def eq3 (x y : Tx.Ins) : Bool := (x.1 == y.1) && ((x.2.1 == y.2.1) && (x.2.2 == y.2.2))
theorem eq3_iff {x y : Tx.Ins} : eq3 x y = true ↔ x = y := by
  obtain ⟨a, b, c⟩ := x
  obtain ⟨d, e, f⟩ := y
  simp [eq3]
theorem fieldsI : Try.prog.underlying 43 = some (.struct (Try.prog.fieldsOf 43)) := by kernel_rfl
theorem heldI : Try.prog.stoodInHeld 43 = false := by kernel_rfl
theorem neqC (x y : Tx.Ins) (w : World) : (binOp .neq 43 (.agg #[.int .i64 x.1, .int .i64 x.2.1, .int .i64 x.2.2]) (.agg #[.int .i64 y.1, .int .i64 y.2.1, .int .i64 y.2.2])).run Try.prog w = .ok (.bool (!(eq3 x y))) w := by
  rw [run_neq_struct, run_equalIn_agg w 9999 _ _ _ fieldsI heldI]
  have hu := Try.underlying43
  have h2 := Try.underlying2
  cases h1 : (x.1 == y.1) <;> cases h3 : (x.2.1 == y.2.1) <;> cases h4 : (x.2.2 == y.2.2) <;>
    simp [Program.fieldsOf, hu, Op.eqFields, go_sem, h2, eq3, h1, h3, h4]
theorem take_more {l r : List Tx.Ins} {k : Nat} (h1 : k < l.length) (h2 : k < r.length) (h : l.take k = r.take k) (e : insF l k = insF r k) : l.take (k + 1) = r.take (k + 1) := by
  have e1 : l[k] = insF l k := by have := ins_is h1; rw [List.getElem?_eq_getElem h1] at this; exact Option.some.inj this
  have e2 : r[k] = insF r k := by have := ins_is h2; rw [List.getElem?_eq_getElem h2] at this; exact Option.some.inj this
  rw [List.take_succ_eq_append_getElem h1, List.take_succ_eq_append_getElem h2, h, e1, e2, e]
set_option maxHeartbeats 1000000 in
theorem equalC (g g' cap cap' : Nat) (l r : List Tx.Ins) (hl : l.length ≤ 1000) (hlen : r.length = l.length) (w : World) (h1 : Row w g 0 l) (h2 : Row w g' 0 r) :
    Calls Try.prog 43 #[.slice (some ⟨g, 0, none⟩) l.length cap, .slice (some ⟨g', 0, none⟩) l.length cap'] w fun e w' => e = .returned (.bool (decide (l = r))) ∧ Below w.heap.size w w' := by
  have H1 : Hid (Row w g 0 l) := h1
  have H2 : Hid (Row w g' 0 r) := h2
  have HLEN : Hid (r.length = l.length) := hlen
  clear h1 h2 hlen
  go_enter Try.func43, Try.ntmps43
  go_wp2
  go_loopw [13] (fun i wr => ∃ k : Nat, k ≤ l.length ∧ i = .int .i64 (k : Int) ∧ Hid (l.take k = r.take k) ∧ Below w.heap.size w wr) (fun i _ => l.length - (intOf i).toNat)
  case atStart => exact ⟨0, Nat.zero_le _, rfl, rfl, Below.refl _ _⟩
  case round =>
    obtain ⟨k, hk, rfl, hsame, hb⟩ := hrel
    by_cases hlt : k < l.length
    · have hlr : k < r.length := by rw [HLEN.out]; exact hlt
      have hki : (k : Int) < (l.length : Int) := by omega
      obtain ⟨a0, a1, a2⟩ := (H1.out.on hb) k _ (ins_is hlt)
      obtain ⟨b0, b1, b2⟩ := (H2.out.on hb) k _ (ins_is hlr)
      simp only [Nat.zero_add] at a0 a1 a2 b0 b1 b2
      have HT : Hid (insF l k = insF r k → l.take (k + 1) = r.take (k + 1)) := fun h => take_more hlt hlr hsame.out h
      have HF : Hid (insF l k ≠ insF r k → decide (l = r) = false) := fun h => by
        have : ¬ l = r := fun e => h (by rw [e])
        simp [this]
      clear hsame hlr
      generalize insF l k = x at *
      generalize insF r k = y at *
      have hq := neqC x y
      have hbd : Below wr.heap.size wr wr.drew := (Below.refl _ _).drew
      have hbw : Below w.heap.size w wr.drew := below_over hb hbd
      cases he : eq3 x y
      · have HN : Hid (decide (l = r) = false) := HF.out (fun e => by rw [eq3_iff.2 e] at he; simp at he)
        rw [he] at hq
        clear HT HF
        go_upto_region 6 with fail
        apply meetP
        case h => intro hp; go_region_law fail; all_goals exact hp
        clear a0 a1 a2 b0 b1 b2 hq hb hbd
        generalize wr.drew = W at *
        go_wp2
        go_ret
        exact ⟨retB HN.out.symm, hbw⟩
      · have HS : Hid (l.take (k + 1) = r.take (k + 1)) := HT.out (eq3_iff.1 he)
        rw [he] at hq
        clear HT HF
        go_upto_region 6 with fail
        apply meetP
        case h => intro hp; go_region_law fail; all_goals exact hp
        clear a0 a1 a2 b0 b1 b2 hq hb hbd
        generalize wr.drew = W at *
        go_wp2
        go_roundw
        case rel => exact ⟨k + 1, by omega, by go_num, HS.out, hbw⟩
        case measure => simp [intOf]; omega
    · obtain rfl : k = l.length := by omega
      have HN : Hid (decide (l = r) = true) := by
        have h := hsame.out
        rw [List.take_length, ← HLEN.out, List.take_length] at h
        simp [Hid, h]
      clear hsame
      go_wp2
      go_ret
      exact ⟨retB HN.out.symm, hb⟩
def goodO (o : Option Int) : Option Int := o.bind fun u => if u = UnK ∨ okB u = true then some u else none
theorem goodO_is {o : Option Int} {u : Int} (h : goodO o = some u) : o = some u ∧ (u = UnK ∨ okB u = true) := by
  cases o with
  | none => simp [goodO] at h
  | some x =>
    unfold goodO at h
    rw [Option.bind_some] at h
    split at h
    · rename_i hg
      injection h with h
      subst h
      exact ⟨rfl, hg⟩
    · simp at h
theorem goodO_of {x : Int} (h : x = UnK ∨ okB x = true) : goodO (some x) = some x := by
  unfold goodO
  rw [Option.bind_some, if_pos h]
/-- What is known is a word of the code, or unknown. -/
theorem word_least {code : List Tx.Ins} (hok : Lay.codeOk code = true) {K : Kw} (h : LeastK code K) {i s : Nat} (hi : i < code.length) (hs : s < 8) {v : Int} (hv : K i s = some v) : v = UnK ∨ okB v = true := by
  have hgood : ∀ {p q : Nat} {u x : Int} {j : Int}, p < code.length → (u = UnK ∨ okB u = true) → (j, x) ∈ tellsF code p q u → (x = UnK ∨ okB x = true) := by
    intro p q u x j hp hu hx
    have hst : (storedF code p).1 = 1 → ((storedF code p).2.1 = UnK ∨ okB (storedF code p).2.1 = true) := fun h1 => by
      unfold storedF at h1 ⊢
      split
      · exact .inl rfl
      · rename_i hl
        rw [if_neg hl] at h1
        split
        · rename_i ho
          rw [if_pos ho] at h1
          exact .inr (push_ok0 hok (by omega) h1)
        · exact .inl rfl
    unfold tellsF at hx
    split at hx
    · simp only [List.mem_singleton, Prod.mk.injEq] at hx; rw [hx.2]; exact hu
    · simp only [List.mem_append] at hx
      rcases hx with (hx | hx) | hx
      · split at hx
        · simp only [List.mem_singleton, Prod.mk.injEq] at hx; rw [hx.2]; exact hu
        · simp at hx
      · split at hx
        · simp only [List.mem_singleton, Prod.mk.injEq] at hx; rw [hx.2]; exact hu
        · simp at hx
      · split at hx
        · rename_i hc
          simp only [List.mem_singleton, Prod.mk.injEq] at hx; rw [hx.2]; exact hst hc.1
        · simp at hx
  have hsol : SolK code (fun a b => goodO (K a b)) := by
    refine ⟨fun j hj => ?_, fun p hp q hq u hu j x hj hx t ht => ?_⟩
    · show goodO (K 0 j) = _
      rw [h.1.1 j hj]; exact goodO_of (.inl rfl)
    · have hku := goodO_is (show goodO (K p q) = some u from hu)
      have hle := h.1.2 p hp q hq u hku.1 j x hj hx t ht
      have hgx := hgood hp hku.2 hx
      show leO (some x) (goodO (K t j))
      rcases hle with e | e | e
      · simp at e
      · rw [e, goodO_of (.inl rfl)]; exact .inr (.inl rfl)
      · rw [← e, goodO_of hgx]; exact leO_refl _
  have := h.2 _ hsol i hi s hs
  change leO (K i s) (goodO (K i s)) at this
  rw [hv] at this
  by_cases hg : v = UnK ∨ okB v = true
  · exact hg
  · have hn : goodO (some v) = none := by unfold goodO; rw [Option.bind_some, if_neg hg]
    rw [hn] at this
    rcases this with e | e | e <;> simp at e
theorem ldI_ok {code : List Tx.Ins} (hok : Lay.codeOk code = true) (hk : LeastK code (knF code)) {i : Nat} (hi : i < code.length) : Tx.okT (ldI code i) = true ∧ (Lay.jumpB (ldI code i).1 = true → (ldI code i).2.1 < (code.length : Int)) := by
  unfold ldI
  split
  · rename_i h
    have hA := store_in hok hi (.inr h.1)
    refine ⟨?_, fun hj => by simp [Lay.jumpB] at hj⟩
    have hw : okB (wdF code i (insF code i).2.1.toNat) = true := by
      have h2 := h.2
      unfold wdF at h2 ⊢
      cases e : knF code i (insF code i).2.1.toNat with
      | none => rw [e] at h2; simp at h2
      | some v =>
        rw [e] at h2
        simp only [Option.getD_some] at h2 ⊢
        exact (word_least hok hk hi (by omega) e).resolve_left h2
    have := ok_yes hw
    unfold Tx.okT Tx.okI
    simp
    omega
  · exact ⟨Lay.ok_at hok (ins_is hi), fun hj => (Lay.ok_jump hok (ins_is hi) hj).2⟩
theorem partL_ok {code : List Tx.Ins} (hok : Lay.codeOk code = true) (hk : LeastK code (knF code)) : ∀ k, k ≤ code.length → Lay.codeOk (partL code k) = true
  | 0, _ => by rw [partL_zero]; exact hok
  | k + 1, h => by
    rw [← partL_step (by omega)]
    obtain ⟨h1, h2⟩ := ldI_ok hok hk (i := k) (by omega)
    exact codeOk_set (partL_ok hok hk k (by omega)) k h1 (by rw [partL_len]; exact h2)
/-- Nothing, or code that is right. -/
def NilOk (c : List Tx.Ins) : Prop := c = [] ∨ Lay.codeOk c = true
theorem folA_is {c : List Tx.Ins} (h : NilOk c) : folA c = (foldsF c).1 := by
  unfold folA
  rcases h with rfl | h
  · rfl
  · simp [h]
theorem folds_nil {c : List Tx.Ins} (h : NilOk c) : NilOk (foldsF c).1 := by
  rcases h with rfl | h
  · exact .inl rfl
  · exact .inr (folds_ok h)
theorem ldA_nil {l : List Tx.Ins} (hk : Lay.codeOk l = true → LeastK l (knF l)) : NilOk (ldA l) := by
  unfold ldA
  split
  · rename_i h
    exact .inr (partL_ok h (hk h) _ (Nat.le_refl _))
  · exact .inl rfl
theorem busy_len (c : List Tx.Ins) : busyN c ≤ c.length := by unfold busyN; exact List.countP_le_length
noncomputable def falA (l : List Tx.Ins) : List Tx.Ins := allF (ldA l)
theorem falA_len (l : List Tx.Ins) : (falA l).length ≤ 41 := by
  have h : ∀ n c, (foldAll n c).length = c.length := by
    intro n
    induction n with
    | zero => intro c; rfl
    | succ n ih =>
      intro c
      simp only [foldAll]
      split
      · rw [ih, folds_len]
      · rfl
  unfold falA allF
  rw [h]
  exact ldA_len l
set_option maxHeartbeats 2000000 in
theorem implFoldedAll (g cap : Nat) (l : List Tx.Ins) (hl : l.length ≤ 1048576) (w : World) (hr : Row w g 0 l) :
    Calls Try.prog 22 #[.slice (some ⟨g, 0, none⟩) l.length cap] w fun e w' => ∃ x, e = .returned x ∧ Got w.heap.size w' x (falA l) ∧ Below w.heap.size w w' := by
  have HR : Hid (Row w g 0 l) := hr
  clear hr
  go_enter Try.func22, Try.ntmps22
  go_wp2_with fail
  refine (implLoadedX g cap l hl w HR.out).mono ?_
  rintro e w1 ⟨v, rfl, ⟨hg, hkn⟩, hb1⟩
  have hld := ldA_len l
  have HGA : Hid (Got w.heap.size w1 v (ldA l)) := hg
  have HNO : Hid (NilOk (ldA l)) := ldA_nil hkn
  clear hg hkn
  go_wp2
  go_loopg [3] 41 (fun n v wr => ∃ c : List Tx.Ins, Hid (Got w.heap.size wr v c) ∧ Hid (NilOk c) ∧ Hid (busyN c ≤ n) ∧ c.length ≤ 41 ∧ Hid (falA l = allF c) ∧ Below w.heap.size w wr)
  case atStart => exact ⟨ldA l, HGA.out, HNO.out, by show _ ≤ _; have := busy_len (ldA l); omega, hld, rfl, hb1⟩
  case round =>
    clear HGA HNO hb1 hld
    obtain ⟨c, hG, hN, hB, hlc, hF, hb⟩ := hrel
    obtain ⟨gc, cc, rfl, q1, q2, q3, q4⟩ := hG.out
    have HRc : Hid (Row wr gc 0 c) := q3
    clear q3 q4
    go_wp2_with fail
    refine (implFolded gc cc c (by omega) wr HRc.out).mono ?_
    rintro e w2 ⟨v2, rfl, hg2, hb2⟩
    rw [folA_is hN.out] at hg2
    obtain ⟨g2, c2, rfl, p1, p2, p3, p4⟩ := hg2
    have hfl := folds_len c
    rw [hfl]
    have HR2 : Hid (Row w2 g2 0 (foldsF c).1) := p3
    have HM2 : Hid (Room w2 g2 ((foldsF c).1.length * 3)) := p4
    have HRc2 : Hid (Row w2 gc 0 c) := HRc.out.on hb2
    have hw2 : Below w.heap.size w w2 := below_over hb hb2
    have hcl : Hid (c.length = (foldsF c).1.length) := hfl.symm
    clear p3 p4 hb2 hfl HRc
    go_wp2_with fail
    have heq := equalC g2 gc c2 cc (foldsF c).1 c (by rw [← hcl.out]; omega) hcl.out w2 HR2.out HRc2.out
    rw [← hcl.out] at heq
    refine heq.mono ?_
    clear heq
    rintro e w3 ⟨rfl, hb3⟩
    have hw3 : Below w.heap.size w w3 := below_over hw2 hb3
    have HG3 : Hid (Got w.heap.size w3 (.slice (some ⟨g2, 0, none⟩) c.length c2) (foldsF c).1) := ⟨g2, c2, by rw [← hcl.out], Nat.le_trans hb.size p1, Nat.lt_of_lt_of_le p2 hb3.size, HR2.out.on hb3, HM2.out.on hb3⟩
    clear hb3 HR2 HM2 HRc2
    cases he : (foldsF c).2
    · have hd : decide ((foldsF c).1 = c) = true := by simp [folds_eq.2 he]
      have HF2 : Hid (falA l = (foldsF c).1) := by show _ = _; rw [hF.out, allF_end he, folds_same he]
      rw [hd]
      clear hd he
      have HG4 : Hid (Got w.heap.size w3 (.slice (some ⟨g2, 0, none⟩) c.length c2) (falA l)) := by show Got _ _ _ _; rw [HF2.out]; exact HG3.out
      go_wp2
      go_ret
      exact ⟨_, rfl, HG4.out, hw3⟩
    · have hne : (foldsF c).1 ≠ c := fun e => by rw [folds_eq.1 e] at he; simp at he
      have hd : decide ((foldsF c).1 = c) = false := by simp [hne]
      have hbz := folds_busy he
      have HF2 : Hid (falA l = allF (foldsF c).1) := by show _ = _; rw [hF.out, allF_step he]
      have HN2 : Hid (NilOk (foldsF c).1) := folds_nil hN.out
      have hlen2 : (foldsF c).1.length ≤ 41 := by rw [← hcl.out]; exact hlc
      have hgk : busyN (foldsF c).1 < gk := Nat.lt_of_lt_of_le hbz hB.out
      rw [hd]
      clear hd he hne hF hN hB
      go_wp2
      go_roundg (busyN (foldsF c).1)
      case rel => exact ⟨(foldsF c).1, HG3.out, HN2.out, Nat.le_refl _, hlen2, HF2.out, hw3⟩
      case measure => exact hgk
end Pg
end Go.Proofs.Ythabenjodhjgiaa
