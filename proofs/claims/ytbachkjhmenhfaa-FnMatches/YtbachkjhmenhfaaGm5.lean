/- Contract of the specification's Matches. -/
import Derived.Test.YtbachkjhmenhfaaGm0
import Derived.Test.YtbachkjhmenhfaaGm2
import Derived.Deep.QuietTactic
import Derived.BigQuiet
namespace Go.Proofs.Ytbachkjhmenhfaa
namespace Pg
open Go.ChangeShapes Go.WideShapes Go.ChangeAt Go.RowKit St

/-- A row of flags, which may be written. -/
def BR (w : World) (g n : Nat) (f : Nat → Bool) : Prop := g < w.heap.size ∧ ∀ k, k < n → w.cell? ⟨g, k, none⟩ = some (.bool (f k)) ∧ w.frozen? ⟨g, k, none⟩ = false
theorem BR.on {u w : World} {g n : Nat} {f : Nat → Bool} (h : BR u g n f) (hb : Below u.heap.size u w) : BR w g n f :=
  ⟨Nat.lt_of_lt_of_le h.1 hb.size, fun k hk => ⟨(hb.cell (p := ⟨g, k, none⟩) h.1).trans (h.2 k hk).1, (hb.frozen (p := ⟨g, k, none⟩) h.1).trans (h.2 k hk).2⟩⟩
theorem BR.congr {w : World} {g n : Nat} {f f' : Nat → Bool} (h : BR w g n f) (e : ∀ k, k < n → f k = f' k) : BR w g n f' := ⟨h.1, fun k hk => by rw [← e k hk]; exact h.2 k hk⟩
theorem BR.set {w : World} {g n : Nat} {f : Nat → Bool} (h : BR w g n f) {k : Nat} (hk : k < n) (b : Bool) : BR (w.setCell ⟨g, k, none⟩ (.bool b)) g n fun j => if j = k then b else f j := by
  refine ⟨by simpa using h.1, fun j hj => ?_⟩
  obtain ⟨h1, h2⟩ := h.2 j hj
  by_cases e : j = k
  · subst e
    refine ⟨?_, by simpa using h2⟩
    show _ = some (Value.bool (if j = j then b else f j))
    rw [if_pos rfl]
    exact World.cell?_setCell_same _ _ _ h1
  · refine ⟨?_, by simpa using h2⟩
    show _ = some (Value.bool (if j = k then b else f j))
    rw [if_neg e]
    exact (World.cell?_setCell_other _ _ _ _ (fun e' => e (congrArg Addr.off e').symm)).trans h1
theorem BR.far {w : World} {g n : Nat} {f : Nat → Bool} (h : BR w g n f) {p : Addr} (hp : p.block ≠ g) (v : Value) : BR (w.setCell p v) g n f := by
  refine ⟨by simpa using h.1, fun j hj => ?_⟩
  obtain ⟨h1, h2⟩ := h.2 j hj
  exact ⟨(World.cell?_setCell_other _ _ _ _ (fun e => hp (by rw [e]))).trans h1, by simpa using h2⟩
theorem BR.next {w : World} {g n j : Nat} {F : Nat → Bool} (h : BR w g n fun q => decide (q < j) && F q) (hj : j < n) {b : Bool} (hb : b = F j) : BR (w.setCell ⟨g, j, none⟩ (.bool b)) g n fun q => decide (q < j + 1) && F q :=
  BR.congr (h.set hj b) fun q _ => by
    show (if q = j then b else decide (q < j) && F q) = _
    by_cases e : q = j
    · subst e; simp [hb]
    · have : decide (q < j + 1) = decide (q < j) := by rw [decide_eq_decide]; omega
      rw [if_neg e, this]
theorem BR.same {w : World} {g n j : Nat} {F : Nat → Bool} (h : BR w g n fun q => decide (q < j) && F q) (hf : F j = false) : BR w g n fun q => decide (q < j + 1) && F q :=
  BR.congr h fun q _ => by
    by_cases e : q = j
    · subst e; simp [hf]
    · have : decide (q < j + 1) = decide (q < j) := by rw [decide_eq_decide]; omega
      rw [this]
theorem drewB {B : Nat} {u w : World} (h : Below B u w) (n : Nat) : Below B u (w.drewN n) := h.trans ⟨rfl, rfl, rfl, Nat.le_refl _, fun _ _ => rfl⟩
theorem own_br {B : Nat} {w : World} {g n cap : Nat} (h : w.ownsRow B 4 1 (.slice (some ⟨g, 0, none⟩) n cap) n (madeCells (Value.bool false).cells (n * 1)).toList) : BR w g n fun _ => false := by
  have e : (madeCells (Value.bool false).cells (n * 1)).toList = List.replicate n (.bool false) := by rw [Nat.mul_one]; exact toList_madeCells_one _ _
  rw [e] at h
  have hc := @World.ownsRow.cells w B 4 1 _ n _ h
  have hlt := @World.ownsRow.lt w B 4 1 _ n _ h
  obtain ⟨_, ⟨h, _⟩ | ⟨g', cap', cur, hv, hB, hblk, hcap, hmax, hsz, _⟩⟩ := h
  · simp at h
  · injection hv with e1 e2 e3
    injection e1 with e1
    injection e1 with e1
    subst e1
    refine ⟨(hlt g rfl).2, fun k hk => ⟨?_, by simp [World.frozen?, hblk]⟩⟩
    have := hc (g := g) rfl k (.bool false) (by simp [hk])
    simpa [Go.WideShapes.add_plain] using this
theorem infoBo : (Try.prog.info? 4).map (fun i => (i.zero, i.size, i.bytes)) = some (some (.bool false), 1, 1) := by kernel_rfl

set_option maxRecDepth 100000 in
set_option maxHeartbeats 2000000 in
theorem specMatches (p t : ByteArray) (w : World) :
    Calls Try.prog 12 #[.string p, .string t] w fun e w' => e = .returned (.bool (matM p.data.toList t.data.toList)) ∧ Below w.heap.size w w' := by
  obtain ⟨i0, hif, hz0, hz1, hz2⟩ := info_parts infoBo
  obtain ⟨P, hP⟩ : ∃ P, P = p.data.toList := ⟨_, rfl⟩
  obtain ⟨T, hT⟩ : ∃ T, T = t.data.toList := ⟨_, rfl⟩
  have HPL : Hid (P.length = p.size) := by show _ = _; rw [hP]; exact str_len p
  have HTL : Hid (T.length = t.size) := by show _ = _; rw [hT]; exact str_len t
  have HR : Hid (matM P T = (decide (p.size ≤ 60) && decide (t.size ≤ 60) && rowM P T t.size)) := by
    show _ = _
    unfold matM
    rw [HPL.out, HTL.out]
  have HPG : Hid (∀ i (h : i < p.size), ∃ h' : i < P.length, P[i] = p[i]) := fun i h => ⟨by rw [HPL.out]; exact h, by subst hP; rfl⟩
  have HTG : Hid (∀ i (h : i < t.size), ∃ h' : i < T.length, T[i] = t[i]) := fun i h => ⟨by rw [HTL.out]; exact h, by subst hT; rfl⟩
  rw [← hP, ← hT, HR.out]
  clear hP hT
  by_cases h1 : p.size ≤ 60
  · by_cases h2 : t.size ≤ 60
    · rw [decide_eq_true h1, decide_eq_true h2, Bool.true_and, Bool.true_and]
      go_enter Try.func12, Try.ntmps12
      go_wp2_with (at_make; refine wpList_make_full _ rfl _ _ 62 rfl w.heap.size 4 i0 (.bool false) 1 Try.underlying62 hif hz0 hz1 .i64 .i64 _ _ (t.size + 1) rfl rfl rfl rfl (by rw [hz2]; omega) (by unfold maxLen; omega) (Nat.le_refl _) ?_; intro w0 hown0 hgrow0; have hbr0 := own_br hown0; have hb0 : Below w.heap.size w w0 := (Below.refl _ _).grown hgrow0 (Nat.le_refl _) (fun _ h => by simp at h); have HB0 : Hid (BR w0 w.heap.size (t.size + 1) fun _ => false) := hbr0; obtain ⟨c0, f0⟩ := hbr0.2 0 (by omega); clear hown0 hgrow0 hbr0)
      have HB1 : Hid (BR (w0.setCell ⟨w.heap.size, 0, none⟩ (.bool true)) w.heap.size (t.size + 1) (rowM [] T)) := BR.congr (HB0.out.set (k := 0) (by omega) true) fun k _ => by
        by_cases e : k = 0 <;> simp [rowM, e]
      have hb1 : Below w.heap.size w (w0.setCell ⟨w.heap.size, 0, none⟩ (.bool true)) := hb0.setCell (Nat.le_refl _) _
      clear c0 f0 HB0 hb0
      go_loopw [5, 6] (fun v i wr => ∃ (k g : Nat), k ≤ p.size ∧ v = .slice (some ⟨g, 0, none⟩) (t.size + 1) (t.size + 1) ∧ i = .int .i64 (k : Int) ∧ Hid (BR wr g (t.size + 1) (rowM (P.take k) T)) ∧ Below w.heap.size w wr) (fun _ i _ => p.size - (intOf i).toNat)
      case atStart => exact ⟨0, w.heap.size, Nat.zero_le _, rfl, rfl, HB1.out, hb1⟩
      case round =>
        clear HB1 hb1
        obtain ⟨k, g, hk, rfl, rfl, hrow, hb⟩ := hrel
        by_cases hlt : k < p.size
        · have hki : (k : Int) < (p.size : Int) := by omega
          go_wp2_with (at_make; refine wpList_make_full _ rfl _ _ 62 rfl wr.heap.size 4 i0 (.bool false) 1 Try.underlying62 hif hz0 hz1 .i64 .i64 _ _ (t.size + 1) rfl rfl rfl rfl (by rw [hz2]; omega) (by unfold maxLen; omega) (Nat.le_refl _) ?_; intro w0 hown0 hgrow0)
          have hbr0 := own_br hown0
          have hb0 : Below wr.heap.size wr w0 := (Below.refl _ _).grown hgrow0 (Nat.le_refl _) (fun _ h => by simp at h)
          have HB0 : Hid (BR w0 wr.heap.size (t.size + 1) fun _ => false) := hbr0
          have HG : Hid (BR w0 g (t.size + 1) (rowM (P.take k) T)) := hrow.out.on hb0
          have hgl : g < wr.heap.size := hrow.out.1
          have hbw : Below w.heap.size w w0 := below_over hb hb0
          have hgw : w.heap.size ≤ wr.heap.size := hb.size
          clear hown0 hgrow0 hbr0 hb0 hrow hb
          generalize wr.heap.size = h at *
          obtain ⟨hkP, hpk⟩ := HPG.out k hlt
          have HK : Hid (∀ j, rowM (P.take (k + 1)) T j = stepM p[k] T (rowM (P.take k) T) j) := fun j => by rw [rowM_take T hkP, hpk]
          clear hpk
          obtain ⟨c, hc⟩ : ∃ c, c = p[k] := ⟨_, rfl⟩
          rw [← hc] at HK
          have HC : Hid (c = p[k]) := hc
          clear hc
          obtain ⟨S, hS⟩ : ∃ S, S = rowM (P.take k) T := ⟨_, rfl⟩
          rw [← hS] at HK HG
          clear hS
          go_loopw [8] (fun i wr => ∃ (j : Nat), j ≤ t.size + 1 ∧ i = .int .i64 (j : Int) ∧ Hid (BR wr h (t.size + 1) fun q => decide (q < j) && stepM c T S q) ∧ Hid (BR wr g (t.size + 1) S) ∧ Below w.heap.size w wr) (fun i _ => t.size + 1 - (intOf i).toNat)
          case atStart => exact ⟨0, Nat.zero_le _, rfl, BR.congr HB0.out fun q _ => by simp, HG.out, hbw⟩
          case round =>
            clear HB0 HG hbw
            obtain ⟨j, hj, rfl, hn, hs, hb⟩ := hrel
            by_cases hjt : j ≤ t.size
            · have hji : (j : Int) ≤ (t.size : Int) := by omega
              obtain ⟨n0, n1⟩ := hn.out.2 j (by omega)
              obtain ⟨s0, _⟩ := hs.out.2 j (by omega)
              have HN : Hid (∀ b, b = stepM c T S j → BR (wr.setCell ⟨h, j, none⟩ (.bool b)) h (t.size + 1) fun q => decide (q < j + 1) && stepM c T S q) := fun b hb => hn.out.next (by omega) hb
              have HN' : Hid (stepM c T S j = false → BR wr h (t.size + 1) fun q => decide (q < j + 1) && stepM c T S q) := fun hf => hn.out.same hf
              have HS2 : Hid (∀ b, BR (wr.setCell ⟨h, j, none⟩ (.bool b)) g (t.size + 1) S) := fun b => hs.out.far (by show h ≠ g; omega) _
              have HBW : Hid (∀ b, Below w.heap.size w (wr.setCell ⟨h, j, none⟩ (.bool b))) := fun b => hb.setCell hgw _
              have hd : decide (j < j) = false := by simp
              simp only [hd, Bool.false_and] at n0
              by_cases h42 : c = 42
              · have hx : ((p[k].toNat : Int) == 42) = true := by rw [← HC.out, h42]; rfl
                cases j with
                | zero =>
                  have HV : Hid (S 0 = stepM c T S 0) := by show _ = _; rw [h42]; simp [stepM]
                  clear hn HN'
                  cases hS0 : S 0
                  · rw [hS0] at s0 HV
                    go_wp2
                    go_roundw
                    case rel => exact ⟨1, by omega, by go_num, HN.out _ HV.out, HS2.out _, HBW.out _⟩
                    case measure => simp [intOf]
                  · rw [hS0] at s0 HV
                    go_wp2
                    go_roundw
                    case rel => exact ⟨1, by omega, by go_num, HN.out _ HV.out, HS2.out _, HBW.out _⟩
                    case measure => simp [intOf]
                | succ q =>
                  have HV : Hid ((S (q + 1) || stepM c T S q) = stepM c T S (q + 1)) := by show _ = _; rw [h42]; simp [stepM]
                  obtain ⟨n2, n3⟩ := hn.out.2 q (by omega)
                  have hd2 : decide (q < q + 1) = true := by simp
                  simp only [hd2, Bool.true_and] at n2
                  clear hn HN'
                  cases hS0 : S (q + 1)
                  · rw [hS0, Bool.false_or] at HV
                    rw [hS0] at s0
                    generalize stepM c T S q = b at *
                    go_wp2
                    go_roundw
                    case rel => exact ⟨q + 1 + 1, by omega, by go_num, HN.out _ HV.out, HS2.out _, HBW.out _⟩
                    case measure => simp [intOf]; omega
                  · rw [hS0, Bool.true_or] at HV
                    rw [hS0] at s0
                    go_wp2
                    go_roundw
                    case rel => exact ⟨q + 1 + 1, by omega, by go_num, HN.out _ HV.out, HS2.out _, HBW.out _⟩
                    case measure => simp [intOf]; omega
              · have hx : ((p[k].toNat : Int) == 42) = false := by
                  rw [← HC.out, show (42 : Int) = ((42 : UInt8).toNat : Int) from rfl, u8_eq]; simpa using h42
                have HQ : Hid (∀ n, BR (wr.drewN n) h (t.size + 1) (fun q => decide (q < j) && stepM c T S q) ∧ BR (wr.drewN n) g (t.size + 1) S ∧ Below w.heap.size w (wr.drewN n)) := fun n =>
                  ⟨hn.out.on (drewB (Below.refl _ _) n), hs.out.on (drewB (Below.refl _ _) n), drewB hb n⟩
                clear hn hs HN HN' HS2 HBW n0 n1 s0 hb
                cases j with
                | zero =>
                  have HV : Hid (stepM c T S 0 = false) := by show _ = _; simp [stepM, h42]
                  go_wp2
                  go_quiet (fail)
                  obtain ⟨q1, q2, q3⟩ := HQ.out nq
                  generalize wr.drewN nq = X at *
                  have Q1 : Hid (BR X h (t.size + 1) fun q => decide (q < 0 + 1) && stepM c T S q) := q1.same HV.out
                  have Q2 : Hid (BR X g (t.size + 1) S) := q2
                  clear q1 q2 HQ HV
                  go_wp2
                  go_roundw
                  case rel => exact ⟨1, by omega, by go_num, Q1.out, Q2.out, q3⟩
                  case measure => simp [intOf]
                | succ q =>
                  have hqi : (q : Int) < (t.size : Int) := by omega
                  obtain ⟨hqT, hqt⟩ := HTG.out q (by omega)
                  have HH : Hid (stepM c T S (q + 1) = (hitB c t[q] && S q)) := by
                    show _ = _
                    simp only [stepM, if_neg h42]
                    rw [hit_get hqT, hqt]
                  clear hqt
                  by_cases h63 : c = 63
                  · have hy : ((p[k].toNat : Int) == 63) = true := by rw [← HC.out, h63]; rfl
                    have HV : Hid (stepM c T S (q + 1) = S q) := by show _ = _; rw [HH.out, h63]; simp [hitB]
                    clear HH
                    go_wp2
                    go_quiet (fail)
                    obtain ⟨q1, q2, q3⟩ := HQ.out nq
                    generalize wr.drewN nq = X at *
                    obtain ⟨n0, n1⟩ := q1.2 (q + 1) (by omega)
                    obtain ⟨s0, _⟩ := q2.2 q (by omega)
                    have HS2 : Hid (∀ b, BR (X.setCell ⟨h, q + 1, none⟩ (.bool b)) g (t.size + 1) S) := fun b => q2.far (by show h ≠ g; omega) _
                    have HBW : Hid (∀ b, Below w.heap.size w (X.setCell ⟨h, q + 1, none⟩ (.bool b))) := fun b => q3.setCell hgw _
                    have HN1 : Hid (BR (X.setCell ⟨h, q + 1, none⟩ (.bool (S q))) h (t.size + 1) fun i => decide (i < q + 1 + 1) && stepM c T S i) := q1.next (by omega) HV.out.symm
                    clear q1 q2 q3 HQ HV
                    generalize S q = b at *
                    go_wp2
                    go_roundw
                    case rel => exact ⟨q + 1 + 1, by omega, by go_num, HN1.out, HS2.out _, HBW.out _⟩
                    case measure => simp [intOf]; omega
                  · have hy : ((p[k].toNat : Int) == 63) = false := by
                      rw [← HC.out, show (63 : Int) = ((63 : UInt8).toNat : Int) from rfl, u8_eq]; simpa using h63
                    by_cases hct : c = t[q]
                    · have hz : ((p[k].toNat : Int) == (t[q].toNat : Int)) = true := by rw [← HC.out, u8_eq]; simpa using hct
                      have HV : Hid (stepM c T S (q + 1) = S q) := by
                        show _ = _; rw [HH.out]
                        have : (c == t[q]) = true := by simpa using hct
                        simp [hitB, this]
                      clear HH hct
                      go_wp2
                      go_quiet (fail)
                      obtain ⟨q1, q2, q3⟩ := HQ.out nq
                      generalize wr.drewN nq = X at *
                      obtain ⟨n0, n1⟩ := q1.2 (q + 1) (by omega)
                      obtain ⟨s0, _⟩ := q2.2 q (by omega)
                      have HS2 : Hid (∀ b, BR (X.setCell ⟨h, q + 1, none⟩ (.bool b)) g (t.size + 1) S) := fun b => q2.far (by show h ≠ g; omega) _
                      have HBW : Hid (∀ b, Below w.heap.size w (X.setCell ⟨h, q + 1, none⟩ (.bool b))) := fun b => q3.setCell hgw _
                      have HN1 : Hid (BR (X.setCell ⟨h, q + 1, none⟩ (.bool (S q))) h (t.size + 1) fun i => decide (i < q + 1 + 1) && stepM c T S i) := q1.next (by omega) HV.out.symm
                      clear q1 q2 q3 HQ HV
                      generalize S q = b at *
                      go_wp2
                      go_roundw
                      case rel => exact ⟨q + 1 + 1, by omega, by go_num, HN1.out, HS2.out _, HBW.out _⟩
                      case measure => simp [intOf]; omega
                    · have hz : ((p[k].toNat : Int) == (t[q].toNat : Int)) = false := by rw [← HC.out, u8_eq]; simpa using hct
                      have HV : Hid (stepM c T S (q + 1) = false) := by
                        show _ = _; rw [HH.out]
                        have h1 : (c == t[q]) = false := by simpa using hct
                        have h2 : (c == 63) = false := by simpa using h63
                        simp [hitB, h1, h2]
                      clear HH hct
                      go_wp2
                      go_quiet (fail)
                      obtain ⟨q1, q2, q3⟩ := HQ.out nq
                      generalize wr.drewN nq = X at *
                      have Q1 : Hid (BR X h (t.size + 1) fun i => decide (i < q + 1 + 1) && stepM c T S i) := q1.same HV.out
                      have Q2 : Hid (BR X g (t.size + 1) S) := q2
                      clear q1 q2 HQ HV
                      go_wp2
                      go_roundw
                      case rel => exact ⟨q + 1 + 1, by omega, by go_num, Q1.out, Q2.out, q3⟩
                      case measure => simp [intOf]; omega
            · obtain rfl : j = t.size + 1 := by omega
              have HX : Hid (BR wr h (t.size + 1) (rowM (P.take (k + 1)) T)) := hn.out.congr fun q hq => by rw [HK.out, decide_eq_true hq, Bool.true_and]
              clear hn hs HK
              go_wp2
              go_roundw
              case rel => exact ⟨k + 1, h, by omega, rfl, by go_num, HX.out, hb⟩
              case measure => simp [intOf]; omega
        · obtain rfl : k = p.size := by omega
          have HE : Hid (rowM (P.take p.size) T t.size = rowM P T t.size) := by show _ = _; rw [← HPL.out, List.take_length]
          obtain ⟨c0, _⟩ := hrow.out.2 t.size (by omega)
          rw [HE.out] at c0
          clear hrow HE
          go_wp2
          go_ret
          exact ⟨rfl, hb⟩
    · have hd : decide (t.size ≤ 60) = false := by simpa using h2
      rw [hd, Bool.and_false, Bool.false_and]
      go_enter Try.func12, Try.ntmps12
      go_wp2
      go_ret
      exact ⟨rfl, Below.refl _ _⟩
  · have hd : decide (p.size ≤ 60) = false := by simpa using h1
    rw [hd, Bool.false_and, Bool.false_and]
    go_enter Try.func12, Try.ntmps12
    go_wp2
    go_ret
    exact ⟨rfl, Below.refl _ _⟩
end Pg
end Go.Proofs.Ytbachkjhmenhfaa
