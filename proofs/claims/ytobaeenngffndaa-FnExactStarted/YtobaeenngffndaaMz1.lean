/- The laws' own marks in machines that a call has made. -/
import Derived.Test.YtobaeenngffndaaMz0
namespace Go.Proofs.Ytobaeenngffndaa
namespace Pg
open Go.ChangeShapes Go.WideShapes Go.ChangeAt Go.RowKit St

def vmarks (m n : Nat) : List Vl := (List.range n).map fun (j : Nat) => (((m : Int) + 2 * (j : Int), (m : Int) + 2 * (j : Int) + 1) : Vl)
theorem vmarks_len (m n : Nat) : (vmarks m n).length = n := by simp [vmarks]
theorem vmarks_at {m n k : Nat} (h : k < n) : (vmarks m n)[k]? = some ((m : Int) + 2 * (k : Int), (m : Int) + 2 * (k : Int) + 1) := by simp [vmarks, h]
theorem only_tch {g : Nat} {S : Nat → Prop} {u w : World} (h : Only g u w) (hs : S g) : Tch S u w := by
  have hb := h.below (Nat.zero_le g)
  exact ⟨hb.os, hb.tape, hb.output, hb.size, fun k _ hk => h.block k (fun e => hk (e ▸ hs))⟩
theorem retN {p q : Int} (h : p = q) : Ending.returned (.int .i64 p) = .returned (.int .i64 q) := by rw [h]
set_option maxRecDepth 100000 in
set_option maxHeartbeats 1000000 in
theorem markV_at (g cap m n : Nat) (mi : Int) (hmi : mi = (m : Int)) (hn : m + 2 * n ≤ 4000000) (w : World) (hr : Room w g (n * 2)) :
    Calls Try.prog 77 #[.slice (some ⟨g, 0, none⟩) n cap, .int .i64 mi] w fun e w' => e = .returned (.int .i64 ((m + 2 * n : Nat) : Int)) ∧ (∀ j x, (vmarks m n)[j]? = some x → VAt w' g (0 + j * 2) x) ∧ Room w' g (n * 2) ∧ Only g w w' := by
  subst hmi
  have HR : Hid (Room w g (n * 2)) := hr
  clear hr
  go_enter Try.func77, Try.ntmps77
  go_wp2
  go_loopw [1, 5] (fun q i wr => ∃ k : Nat, k ≤ n ∧ i = .int .i64 k ∧ q = .int .i64 ((m : Int) + 2 * (k : Int)) ∧ Hid (Room wr g (n * 2)) ∧ Hid (∀ j x, ((vmarks m n).take k)[j]? = some x → VAt wr g (0 + j * 2) x) ∧ Hid (Only g w wr)) (fun _ i _ => n - (intOf i).toNat)
  case atStart => exact ⟨0, Nat.zero_le _, rfl, by simp, HR.out, fun j x h => by simp at h, Only.refl _ _⟩
  case round =>
    obtain ⟨k, hk, rfl, rfl, hrm, hrw, hon⟩ := hrel
    by_cases hlt : k < n
    · have hki : (k : Int) < (n : Int) := by omega
      obtain ⟨⟨x0, d0⟩, f0⟩ := hrm.out (k * 2) (by omega)
      obtain ⟨⟨x1, d1⟩, f1⟩ := hrm.out (k * 2 + 1) (by omega)
      have hml : k < (vmarks m n).length := by rw [vmarks_len]; exact hlt
      have HN := VAt.next hml (by rw [vmarks_len]; exact hrm.out) hrw.out
      have hmk : (vmarks m n)[k] = ((m : Int) + 2 * (k : Int), (m : Int) + 2 * (k : Int) + 1) := by
        have := vmarks_at (m := m) hlt
        rw [List.getElem?_eq_getElem hml] at this
        simpa using this
      rw [hmk] at HN
      have HNX : Hid (∀ j x, ((vmarks m n).take (k + 1))[j]? = some x → VAt ((wr.setCell ⟨g, k * 2, none⟩ (.int .i64 ((m : Int) + 2 * (k : Int)))).setCell ⟨g, k * 2 + 1, none⟩ (.int .i64 ((m : Int) + 2 * (k : Int) + 1))) g (0 + j * 2) x) := HN
      clear HN hmk hml
      go_wp2
      go_roundw
      case rel => exact ⟨k + 1, by omega, by go_num, by go_num, (hrm.out.set _ _).set _ _, HNX.out, (hon.out.set _ _).set _ _⟩
      case measure => simp [intOf]; omega
    · have e : (vmarks m n).take k = vmarks m n := List.take_of_length_le (by rw [vmarks_len]; omega)
      have hkn : k = n := by omega
      have HE := hrw.out
      rw [e] at HE
      have HEE : Hid (∀ j x, (vmarks m n)[j]? = some x → VAt wr g (0 + j * 2) x) := HE
      have HKN : Hid (k = n) := hkn
      clear HE e hkn
      go_wp2
      go_ret
      exact ⟨by rw [← HKN.out]; push_cast; rfl, HEE.out, hrm.out, hon.out⟩
set_option maxHeartbeats 400000 in
theorem markV_nil (m : Nat) (mi : Int) (hmi : mi = (m : Int)) (w : World) : Calls Try.prog 77 #[.slice none 0 0, .int .i64 mi] w fun e w' => e = .returned (.int .i64 (m : Int)) ∧ w = w' := by
  subst hmi
  go_enter Try.func77, Try.ntmps77
  go_wp2
  go_loop [1, 5] (fun q i => q = .int .i64 (m : Int) ∧ i = .int .i64 0) (fun _ _ => 0)
  case atStart => exact ⟨rfl, rfl⟩
  case round =>
    obtain ⟨rfl, rfl⟩ := hrel
    go_wp2
    go_ret
    exact ⟨rfl, rfl⟩
theorem markVals (S : Nat → Prop) (a : Option Addr) (cap m : Nat) (mi : Int) (hmi : mi = (m : Int)) (l : List Vl) (hn : m + 2 * l.length ≤ 4000000) (w : World) (h : VZ S w (.slice a l.length cap) l) :
    Calls Try.prog 77 #[.slice a l.length cap, .int .i64 mi] w fun e w' => e = .returned (.int .i64 ((m + 2 * l.length : Nat) : Int)) ∧ VZ S w' (.slice a l.length cap) (vmarks m l.length) ∧ Tch S w w' := by
  rcases h with ⟨g, c, hv, h1, h2, h3, h4⟩ | ⟨hv, rfl⟩
  · rw [hv]
    refine (markV_at g c m l.length mi hmi hn w h4).mono ?_
    rintro e w' ⟨rfl, k1, k2, k3⟩
    exact ⟨rfl, .inl ⟨g, c, by rw [vmarks_len], h1, by rw [k3.size]; exact h2, fun j x hj => by have := k1 j x hj; rw [Nat.zero_add] at this; exact this, by rw [vmarks_len]; exact k2⟩, only_tch k3 h1⟩
  · rw [hv]
    refine (markV_nil m mi hmi w).mono ?_
    rintro e w' ⟨rfl, rfl⟩
    exact ⟨by simp, .inr ⟨rfl, rfl⟩, Tch.refl _ _⟩
set_option maxRecDepth 100000 in
set_option maxHeartbeats 1000000 in
theorem heldV_at (g cap m n : Nat) (mi : Int) (hmi : mi = (m : Int)) (hn : m + 2 * n ≤ 4000000) (w : World) (hr : ∀ j x, (vmarks m n)[j]? = some x → VAt w g (j * 2) x) :
    Calls Try.prog 78 #[.slice (some ⟨g, 0, none⟩) n cap, .int .i64 mi] w fun e w' => e = .returned (.int .i64 ((m + 2 * n : Nat) : Int)) ∧ w = w' := by
  subst hmi
  have HR : Hid (∀ j x, (vmarks m n)[j]? = some x → VAt w g (j * 2) x) := hr
  clear hr
  go_enter Try.func78, Try.ntmps78
  go_wp2
  go_loop [1, 5] (fun q i => ∃ k : Nat, k ≤ n ∧ i = .int .i64 k ∧ q = .int .i64 ((m : Int) + 2 * (k : Int))) (fun _ i => n - (intOf i).toNat)
  case atStart => exact ⟨0, Nat.zero_le _, rfl, by simp⟩
  case round =>
    obtain ⟨k, hk, rfl, rfl⟩ := hrel
    by_cases hlt : k < n
    · have hki : (k : Int) < (n : Int) := by omega
      obtain ⟨h0, h1⟩ := HR.out k _ (vmarks_at hlt)
      go_wp2
      go_round
      case rel => exact ⟨k + 1, by omega, by go_num, by go_num⟩
      case measure => simp [intOf]; omega
    · have HKN : Hid (k = n) := by show k = n; omega
      go_wp2
      go_ret
      exact ⟨by rw [← HKN.out]; push_cast; rfl, rfl⟩
set_option maxHeartbeats 400000 in
theorem heldV_nil (m : Nat) (mi : Int) (hmi : mi = (m : Int)) (w : World) : Calls Try.prog 78 #[.slice none 0 0, .int .i64 mi] w fun e w' => e = .returned (.int .i64 (m : Int)) ∧ w = w' := by
  subst hmi
  go_enter Try.func78, Try.ntmps78
  go_wp2
  go_loop [1, 5] (fun q i => q = .int .i64 (m : Int) ∧ i = .int .i64 0) (fun _ _ => 0)
  case atStart => exact ⟨rfl, rfl⟩
  case round =>
    obtain ⟨rfl, rfl⟩ := hrel
    go_wp2
    go_ret
    exact ⟨rfl, rfl⟩
theorem heldVals (S : Nat → Prop) (a : Option Addr) (cap m n : Nat) (mi : Int) (hmi : mi = (m : Int)) (hn : m + 2 * n ≤ 4000000) (w : World) (h : VZ S w (.slice a n cap) (vmarks m n)) :
    Calls Try.prog 78 #[.slice a n cap, .int .i64 mi] w fun e w' => e = .returned (.int .i64 ((m + 2 * n : Nat) : Int)) ∧ w = w' := by
  rcases h with ⟨g, c, hv, h1, h2, h3, h4⟩ | ⟨hv, hl⟩
  · rw [vmarks_len] at hv
    rw [hv]
    exact heldV_at g c m n mi hmi hn w h3
  · have hn0 : n = 0 := by have := vmarks_len m n; rw [hl] at this; simpa using this.symm
    subst hn0
    rw [hv]
    exact heldV_nil m mi hmi w

/-- Objects, marked from m on. -/
def cntO1 (x : Ob) : Nat := 1 + 2 * x.flds.length
def markO1 (m : Nat) (x : Ob) : Ob := ⟨(m : Int), vmarks (m + 1) x.flds.length⟩
def offO (m : Nat) (l : List Ob) (i : Nat) : Nat := m + sumN ((l.take i).map cntO1)
def midO (m : Nat) (l : List Ob) (k : Nat) : List Ob := l.mapIdx fun i x => if i < k then markO1 (offO m l i) x else x
def marksO (m : Nat) (l : List Ob) : List Ob := midO m l l.length
theorem midO_len (m : Nat) (l : List Ob) (k : Nat) : (midO m l k).length = l.length := by simp [midO]
theorem midO_at (m : Nat) (l : List Ob) (k i : Nat) : (midO m l k)[i]? = l[i]?.map fun x => if i < k then markO1 (offO m l i) x else x := by simp [midO]
theorem midO_zero (m : Nat) (l : List Ob) : midO m l 0 = l := by
  apply List.ext_getElem?
  intro i
  rw [midO_at]
  cases l[i]? <;> simp
theorem offO_next (m : Nat) {l : List Ob} {k : Nat} (hk : k < l.length) : offO m l (k + 1) = offO m l k + cntO1 l[k] := by
  unfold offO
  rw [sumN_take_succ _ _ _ hk]
  omega
theorem offO_le (m : Nat) (l : List Ob) (k : Nat) : offO m l k ≤ m + sumN (l.map cntO1) := by
  unfold offO
  have := sumN_take_le cntO1 l k
  omega
theorem offO_end (m : Nat) {l : List Ob} {k : Nat} (hk : l.length ≤ k) : offO m l k = m + sumN (l.map cntO1) := by
  unfold offO
  rw [List.take_of_length_le hk]
theorem OE.far {T : Nat → Nat → Prop} {w : World} {b o i : Nat} {x : Ob} (h : OE T w b o x) (hT : ∀ j k, T j k → k ≠ b) (hi : i < o ∨ o + 1 < i) (v : Value) : OE T (w.setCell ⟨b, i, none⟩ v) b o x := by
  obtain ⟨v1, c0, c1, z0⟩ := h
  have ht : Tch (fun k => k = b) w (w.setCell ⟨b, i, none⟩ v) := Tch.set (S := fun k => k = b) w (p := ⟨b, i, none⟩) rfl v
  exact ⟨v1, (World.cell?_setCell_other _ _ _ _ (ne_off (by omega))).trans c0, (World.cell?_setCell_other _ _ _ _ (ne_off (by omega))).trans c1, z0.tch ht (hT 0)⟩
theorem OE.tch {T : Nat → Nat → Prop} {R : Nat → Prop} {u w : World} {b o : Nat} {x : Ob} (h : OE T u b o x) (ht : Tch R u w) (hb : ¬ R b) (hd : ∀ j k, T j k → ¬ R k) (hl : b < u.heap.size) : OE T w b o x := h.moved ht.size (ht.far b hl hb) fun j k hk hkl => ht.far k hkl (hd j k hk)
set_option maxRecDepth 100000 in
set_option maxHeartbeats 2000000 in
theorem markObjects (S : Nat → Prop) (a : Option Addr) (cap m : Nat) (mi : Int) (hmi : mi = (m : Int)) (l : List Ob) (hl : l.length ≤ 1048576) (hn : m + sumN (l.map cntO1) ≤ 4000000) (w : World) (h : OZ S w (.slice a l.length cap) l) :
    Calls Try.prog 46 #[.slice a l.length cap, .int .i64 mi] w fun e w' => e = .returned (.int .i64 ((m + sumN (l.map cntO1) : Nat) : Int)) ∧ OZ S w' (.slice a l.length cap) (marksO m l) ∧ Tch S w w' := by
  subst hmi
  rcases h with ⟨g, c, T, hv, h1, h2, h3, h4, h5, h6⟩ | ⟨hv, rfl⟩
  · rw [hv]
    have HRM : Hid (Room w g (l.length * 2)) := h3
    have HT4 : Hid (∀ i j k, T i j k → S k ∧ k ≠ g) := h4
    have HT5 : Hid (∀ i j i' j' k, T i j k → T i' j' k → i = i' ∧ j = j') := h5
    have HE : Hid (∀ i x, l[i]? = some x → OE (T i) w g (i * 2) x) := h6
    have HSG : Hid (S g) := h1
    clear h1 h3 h4 h5 h6 hv
    go_enter Try.func46, Try.ntmps46
    go_wp2
    go_loopw [1, 5] (fun q i wr => ∃ (k o : Nat), k ≤ l.length ∧ i = .int .i64 k ∧ q = .int .i64 (o : Int) ∧ Hid (o = offO m l k) ∧ o ≤ 4000000 ∧ g < wr.heap.size ∧ Hid (Room wr g (l.length * 2)) ∧ Hid (∀ i x, (midO m l k)[i]? = some x → OE (T i) wr g (i * 2) x) ∧ Hid (Tch S w wr)) (fun _ i _ => l.length - (intOf i).toNat)
    case atStart => exact ⟨0, m, Nat.zero_le _, rfl, rfl, by show _ = _; simp [offO, sumN], by omega, h2, HRM.out, by rw [midO_zero]; exact HE.out, Tch.refl _ _⟩
    case round =>
      obtain ⟨k, o, hk, rfl, rfl, ho, ho4, hgl, hrm, hrw, hon⟩ := hrel
      clear h2
      by_cases hlt : k < l.length
      · have hki : (k : Int) < (l.length : Int) := by omega
        have HX : Hid (l[k]? = some l[k]) := List.getElem?_eq_getElem hlt
        have HON : Hid (offO m l (k + 1) = o + cntO1 l[k]) := by show _ = _; rw [offO_next m hlt, ho.out]
        have HOL : Hid (offO m l (k + 1) ≤ 4000000) := Nat.le_trans (offO_le m l (k + 1)) hn
        obtain ⟨v1, c0, c1, z0⟩ := hrw.out k l[k] (by rw [midO_at, HX.out]; simp)
        obtain ⟨a1, e1, rfl⟩ := z0.form
        have HZ0 : Hid (VZ (T k 0) wr (.slice a1 l[k].flds.length e1) l[k].flds) := z0
        obtain ⟨_, f0⟩ := hrm.out (k * 2) (by omega)
        clear z0
        have HTS : Hid (Tch (fun k => k = g) wr (wr.setCell ⟨g, k * 2, none⟩ (.int .i64 ((o : Int))))) := (Tch.set (S := fun k => k = g) wr (p := ⟨g, k * 2, none⟩) rfl (.int .i64 ((o : Int))))
        have y0 : (wr.setCell ⟨g, k * 2, none⟩ (.int .i64 ((o : Int)))).cell? ⟨g, k * 2 + 1, none⟩ = some (.slice a1 l[k].flds.length e1) := (World.cell?_setCell_other _ _ _ _ (ne_off (by omega))).trans (c1)
        have HI0 : Hid ((wr.setCell ⟨g, k * 2, none⟩ (.int .i64 ((o : Int)))).cell? ⟨g, k * 2, none⟩ = some (.int .i64 ((o : Int)))) := World.cell?_setCell_same _ _ _ (c0)
        have HOT : Hid (∀ i x, i ≠ k → (midO m l k)[i]? = some x → OE (T i) (wr.setCell ⟨g, k * 2, none⟩ (.int .i64 ((o : Int)))) g (i * 2) x) := fun i x hik hx => by
          rcases Nat.lt_or_ge i k with h | h
          · exact ((hrw.out i x hx).far (fun j k hT => (HT4.out i j k hT).2) (by omega) _)
          · exact ((hrw.out i x hx).far (fun j k hT => (HT4.out i j k hT).2) (by omega) _)
        have HRM2 : Hid (Room (wr.setCell ⟨g, k * 2, none⟩ (.int .i64 ((o : Int)))) g (l.length * 2)) := (hrm.out.set _ _)
        have hg2 : g < (wr.setCell ⟨g, k * 2, none⟩ (.int .i64 ((o : Int)))).heap.size := by simpa using hgl
        have HL0 : Hid (o + 1 + 2 * l[k].flds.length ≤ 4000000) := by show _ ≤ _; have q1 := HON.out; have q2 := HOL.out; unfold cntO1 at q1; omega
        clear c1 hrw hrm
        go_wp2_with fail
        generalize hgen : (wr.setCell ⟨g, k * 2, none⟩ (.int .i64 ((o : Int)))) = u0 at *
        clear hgen
        refine (markVals (T k 0) a1 e1 (o + 1) _ (by push_cast; omega) l[k].flds HL0.out _ (HZ0.out.tch HTS.out (fun k2 hk2 => (HT4.out k 0 k2 hk2).2))).mono ?_
        rintro e w1 ⟨rfl, zn0, ht1⟩
        have HTT : Hid (Tch (fun b => T k 0 b) u0 w1) := ht1
        have HNG : Hid (¬ (T k 0 g)) := fun h => (HT4.out k 0 g h).2 rfl
        have hgb : w1.heap[g]? = u0.heap[g]? := HTT.out.far g hg2 HNG.out
        have HNEW : Hid (OE (T k) w1 g (k * 2) (markO1 o l[k])) := ⟨_, (World.cell?_of_block (w := u0) hgb).trans HI0.out, (World.cell?_of_block (w := u0) hgb).trans y0, zn0⟩
        have HALL : Hid (∀ i x, (midO m l (k + 1))[i]? = some x → OE (T i) w1 g (i * 2) x) := fun i x hx => by
          by_cases hik : i = k
          · subst hik
            rw [midO_at, HX.out] at hx
            simp at hx
            rw [← hx, ← ho.out]
            exact HNEW.out
          · have hx2 : (midO m l k)[i]? = some x := by
              rw [midO_at] at hx ⊢
              have e1 : (i < k + 1) = (i < k) := by apply propext; omega
              rw [← hx]; simp only [e1]
            exact (HOT.out i x hik hx2).tch HTT.out HNG.out (fun j b hT hR => by
              exact hik (HT5.out i j k 0 b hT hR).1) hg2
        have HRM3 : Hid (Room w1 g (l.length * 2)) := room_moved hgb HRM2.out
        have hg4 : g < w1.heap.size := Nat.lt_of_lt_of_le hg2 HTT.out.size
        have HTC : Hid (Tch S w w1) := hon.out.trans ((HTS.out.mono fun b hb => by subst hb; exact HSG.out).trans (HTT.out.mono fun b hb => (HT4.out k 0 b hb).1))
        have HOF : Hid (o + 1 + 2 * l[k].flds.length = offO m l (k + 1)) := by show _ = _; rw [HON.out]; unfold cntO1; omega
        have hof4 : o + 1 + 2 * l[k].flds.length ≤ 4000000 := HL0.out
        clear zn0 ht1 HNEW HOT hgb y0
        clear HZ0 HI0
        generalize o + 1 + 2 * l[k].flds.length = o2 at *
        go_wp2
        go_roundw
        case rel => exact ⟨k + 1, o2, by omega, by go_num, rfl, HOF.out, hof4, hg4, HRM3.out, HALL.out, HTC.out⟩
        case measure => simp [intOf]; omega
      · have HOE : Hid (o = m + sumN (l.map cntO1)) := by show _ = _; rw [ho.out, offO_end m (by omega)]
        have HME : Hid (midO m l k = marksO m l) := by
          show _ = _
          have e : k = l.length := by omega
          rw [e]
          rfl
        have HFIN : Hid (OZ S wr (.slice (some ⟨g, 0, none⟩) l.length c) (marksO m l)) := by
          have hrm2 := hrm.out
          have hrw2 := hrw.out
          rw [HME.out] at hrw2
          exact .inl ⟨g, c, T, by rw [marksO, midO_len], HSG.out, hgl, by rw [marksO, midO_len]; exact hrm2, HT4.out, HT5.out, hrw2⟩
        go_wp2
        go_ret
        exact ⟨retN (congrArg (fun t : Nat => (t : Int)) HOE.out), HFIN.out, hon.out⟩
  · rw [hv]
    go_enter Try.func46, Try.ntmps46
    go_wp2
    go_loopw [1, 5] (fun q i wr => q = .int .i64 (m : Int) ∧ i = .int .i64 0 ∧ wr = w) (fun _ _ _ => 0)
    case atStart => exact ⟨rfl, rfl, rfl⟩
    case round =>
      obtain ⟨rfl, rfl, rfl⟩ := hrel
      go_wp2
      go_ret
      exact ⟨by simp [sumN], .inr ⟨rfl, rfl⟩, Tch.refl _ _⟩

/-- Frames, marked from m on. -/
def cntF1 (x : Fr) : Nat := 3 + 2 * x.stk.length + 2 * x.loc.length
def markF1 (m : Nat) (x : Fr) : Fr := ⟨(m : Int), (m : Int) + 1, (m : Int) + 1 + 1, vmarks (m + 3) x.stk.length, vmarks (m + 3 + 2 * x.stk.length) x.loc.length⟩
def offF (m : Nat) (l : List Fr) (i : Nat) : Nat := m + sumN ((l.take i).map cntF1)
def midF (m : Nat) (l : List Fr) (k : Nat) : List Fr := l.mapIdx fun i x => if i < k then markF1 (offF m l i) x else x
def marksF (m : Nat) (l : List Fr) : List Fr := midF m l l.length
theorem midF_len (m : Nat) (l : List Fr) (k : Nat) : (midF m l k).length = l.length := by simp [midF]
theorem midF_at (m : Nat) (l : List Fr) (k i : Nat) : (midF m l k)[i]? = l[i]?.map fun x => if i < k then markF1 (offF m l i) x else x := by simp [midF]
theorem midF_zero (m : Nat) (l : List Fr) : midF m l 0 = l := by
  apply List.ext_getElem?
  intro i
  rw [midF_at]
  cases l[i]? <;> simp
theorem offF_next (m : Nat) {l : List Fr} {k : Nat} (hk : k < l.length) : offF m l (k + 1) = offF m l k + cntF1 l[k] := by
  unfold offF
  rw [sumN_take_succ _ _ _ hk]
  omega
theorem offF_le (m : Nat) (l : List Fr) (k : Nat) : offF m l k ≤ m + sumN (l.map cntF1) := by
  unfold offF
  have := sumN_take_le cntF1 l k
  omega
theorem offF_end (m : Nat) {l : List Fr} {k : Nat} (hk : l.length ≤ k) : offF m l k = m + sumN (l.map cntF1) := by
  unfold offF
  rw [List.take_of_length_le hk]
theorem FE.far {T : Nat → Nat → Prop} {w : World} {b o i : Nat} {x : Fr} (h : FE T w b o x) (hT : ∀ j k, T j k → k ≠ b) (hi : i < o ∨ o + 4 < i) (v : Value) : FE T (w.setCell ⟨b, i, none⟩ v) b o x := by
  obtain ⟨v1, v2, c0, c1, c2, c3, c4, z0, z1⟩ := h
  have ht : Tch (fun k => k = b) w (w.setCell ⟨b, i, none⟩ v) := Tch.set (S := fun k => k = b) w (p := ⟨b, i, none⟩) rfl v
  exact ⟨v1, v2, (World.cell?_setCell_other _ _ _ _ (ne_off (by omega))).trans c0, (World.cell?_setCell_other _ _ _ _ (ne_off (by omega))).trans c1, (World.cell?_setCell_other _ _ _ _ (ne_off (by omega))).trans c2, (World.cell?_setCell_other _ _ _ _ (ne_off (by omega))).trans c3, (World.cell?_setCell_other _ _ _ _ (ne_off (by omega))).trans c4, z0.tch ht (hT 0), z1.tch ht (hT 1)⟩
theorem FE.tch {T : Nat → Nat → Prop} {R : Nat → Prop} {u w : World} {b o : Nat} {x : Fr} (h : FE T u b o x) (ht : Tch R u w) (hb : ¬ R b) (hd : ∀ j k, T j k → ¬ R k) (hl : b < u.heap.size) : FE T w b o x := h.moved ht.size (ht.far b hl hb) fun j k hk hkl => ht.far k hkl (hd j k hk)
set_option maxRecDepth 100000 in
set_option maxHeartbeats 2000000 in
theorem markFrames (S : Nat → Prop) (a : Option Addr) (cap m : Nat) (mi : Int) (hmi : mi = (m : Int)) (l : List Fr) (hl : l.length ≤ 1048576) (hn : m + sumN (l.map cntF1) ≤ 4000000) (w : World) (h : FZ S w (.slice a l.length cap) l) :
    Calls Try.prog 47 #[.slice a l.length cap, .int .i64 mi] w fun e w' => e = .returned (.int .i64 ((m + sumN (l.map cntF1) : Nat) : Int)) ∧ FZ S w' (.slice a l.length cap) (marksF m l) ∧ Tch S w w' := by
  subst hmi
  rcases h with ⟨g, c, T, hv, h1, h2, h3, h4, h5, h6⟩ | ⟨hv, rfl⟩
  · rw [hv]
    have HRM : Hid (Room w g (l.length * 5)) := h3
    have HT4 : Hid (∀ i j k, T i j k → S k ∧ k ≠ g) := h4
    have HT5 : Hid (∀ i j i' j' k, T i j k → T i' j' k → i = i' ∧ j = j') := h5
    have HE : Hid (∀ i x, l[i]? = some x → FE (T i) w g (i * 5) x) := h6
    have HSG : Hid (S g) := h1
    clear h1 h3 h4 h5 h6 hv
    go_enter Try.func47, Try.ntmps47
    go_wp2
    go_loopw [1, 5] (fun q i wr => ∃ (k o : Nat), k ≤ l.length ∧ i = .int .i64 k ∧ q = .int .i64 (o : Int) ∧ Hid (o = offF m l k) ∧ o ≤ 4000000 ∧ g < wr.heap.size ∧ Hid (Room wr g (l.length * 5)) ∧ Hid (∀ i x, (midF m l k)[i]? = some x → FE (T i) wr g (i * 5) x) ∧ Hid (Tch S w wr)) (fun _ i _ => l.length - (intOf i).toNat)
    case atStart => exact ⟨0, m, Nat.zero_le _, rfl, rfl, by show _ = _; simp [offF, sumN], by omega, h2, HRM.out, by rw [midF_zero]; exact HE.out, Tch.refl _ _⟩
    case round =>
      obtain ⟨k, o, hk, rfl, rfl, ho, ho4, hgl, hrm, hrw, hon⟩ := hrel
      clear h2
      by_cases hlt : k < l.length
      · have hki : (k : Int) < (l.length : Int) := by omega
        have HX : Hid (l[k]? = some l[k]) := List.getElem?_eq_getElem hlt
        have HON : Hid (offF m l (k + 1) = o + cntF1 l[k]) := by show _ = _; rw [offF_next m hlt, ho.out]
        have HOL : Hid (offF m l (k + 1) ≤ 4000000) := Nat.le_trans (offF_le m l (k + 1)) hn
        obtain ⟨v1, v2, c0, c1, c2, c3, c4, z0, z1⟩ := hrw.out k l[k] (by rw [midF_at, HX.out]; simp)
        obtain ⟨a1, e1, rfl⟩ := z0.form
        obtain ⟨a2, e2, rfl⟩ := z1.form
        have HZ0 : Hid (VZ (T k 0) wr (.slice a1 l[k].stk.length e1) l[k].stk) := z0
        have HZ1 : Hid (VZ (T k 1) wr (.slice a2 l[k].loc.length e2) l[k].loc) := z1
        obtain ⟨_, f0⟩ := hrm.out (k * 5) (by omega)
        obtain ⟨_, f1⟩ := hrm.out (k * 5 + 1) (by omega)
        obtain ⟨_, f2⟩ := hrm.out (k * 5 + 2) (by omega)
        clear z0 z1
        have HTS : Hid (Tch (fun k => k = g) wr (((wr.setCell ⟨g, k * 5, none⟩ (.int .i64 ((o : Int)))).setCell ⟨g, k * 5 + 1, none⟩ (.int .i64 ((o : Int) + 1))).setCell ⟨g, k * 5 + 2, none⟩ (.int .i64 ((o : Int) + 1 + 1)))) := (((Tch.set (S := fun k => k = g) wr (p := ⟨g, k * 5, none⟩) rfl (.int .i64 ((o : Int)))).trans (Tch.set (S := fun k => k = g) _ (p := ⟨g, k * 5 + 1, none⟩) rfl (.int .i64 ((o : Int) + 1)))).trans (Tch.set (S := fun k => k = g) _ (p := ⟨g, k * 5 + 2, none⟩) rfl (.int .i64 ((o : Int) + 1 + 1))))
        have y0 : (((wr.setCell ⟨g, k * 5, none⟩ (.int .i64 ((o : Int)))).setCell ⟨g, k * 5 + 1, none⟩ (.int .i64 ((o : Int) + 1))).setCell ⟨g, k * 5 + 2, none⟩ (.int .i64 ((o : Int) + 1 + 1))).cell? ⟨g, k * 5 + 3, none⟩ = some (.slice a1 l[k].stk.length e1) := (World.cell?_setCell_other _ _ _ _ (ne_off (by omega))).trans ((World.cell?_setCell_other _ _ _ _ (ne_off (by omega))).trans ((World.cell?_setCell_other _ _ _ _ (ne_off (by omega))).trans (c3)))
        have y1 : (((wr.setCell ⟨g, k * 5, none⟩ (.int .i64 ((o : Int)))).setCell ⟨g, k * 5 + 1, none⟩ (.int .i64 ((o : Int) + 1))).setCell ⟨g, k * 5 + 2, none⟩ (.int .i64 ((o : Int) + 1 + 1))).cell? ⟨g, k * 5 + 4, none⟩ = some (.slice a2 l[k].loc.length e2) := (World.cell?_setCell_other _ _ _ _ (ne_off (by omega))).trans ((World.cell?_setCell_other _ _ _ _ (ne_off (by omega))).trans ((World.cell?_setCell_other _ _ _ _ (ne_off (by omega))).trans (c4)))
        have HI0 : Hid ((((wr.setCell ⟨g, k * 5, none⟩ (.int .i64 ((o : Int)))).setCell ⟨g, k * 5 + 1, none⟩ (.int .i64 ((o : Int) + 1))).setCell ⟨g, k * 5 + 2, none⟩ (.int .i64 ((o : Int) + 1 + 1))).cell? ⟨g, k * 5, none⟩ = some (.int .i64 ((o : Int)))) := (World.cell?_setCell_other _ _ _ _ (ne_off (by omega))).trans ((World.cell?_setCell_other _ _ _ _ (ne_off (by omega))).trans (World.cell?_setCell_same _ _ _ (c0)))
        have HI1 : Hid ((((wr.setCell ⟨g, k * 5, none⟩ (.int .i64 ((o : Int)))).setCell ⟨g, k * 5 + 1, none⟩ (.int .i64 ((o : Int) + 1))).setCell ⟨g, k * 5 + 2, none⟩ (.int .i64 ((o : Int) + 1 + 1))).cell? ⟨g, k * 5 + 1, none⟩ = some (.int .i64 ((o : Int) + 1))) := (World.cell?_setCell_other _ _ _ _ (ne_off (by omega))).trans (World.cell?_setCell_same _ _ _ ((World.cell?_setCell_other _ _ _ _ (ne_off (by omega))).trans (c1)))
        have HI2 : Hid ((((wr.setCell ⟨g, k * 5, none⟩ (.int .i64 ((o : Int)))).setCell ⟨g, k * 5 + 1, none⟩ (.int .i64 ((o : Int) + 1))).setCell ⟨g, k * 5 + 2, none⟩ (.int .i64 ((o : Int) + 1 + 1))).cell? ⟨g, k * 5 + 2, none⟩ = some (.int .i64 ((o : Int) + 1 + 1))) := World.cell?_setCell_same _ _ _ ((World.cell?_setCell_other _ _ _ _ (ne_off (by omega))).trans ((World.cell?_setCell_other _ _ _ _ (ne_off (by omega))).trans (c2)))
        have HOT : Hid (∀ i x, i ≠ k → (midF m l k)[i]? = some x → FE (T i) (((wr.setCell ⟨g, k * 5, none⟩ (.int .i64 ((o : Int)))).setCell ⟨g, k * 5 + 1, none⟩ (.int .i64 ((o : Int) + 1))).setCell ⟨g, k * 5 + 2, none⟩ (.int .i64 ((o : Int) + 1 + 1))) g (i * 5) x) := fun i x hik hx => by
          rcases Nat.lt_or_ge i k with h | h
          · exact ((((hrw.out i x hx).far (fun j k hT => (HT4.out i j k hT).2) (by omega) _).far (fun j k hT => (HT4.out i j k hT).2) (by omega) _).far (fun j k hT => (HT4.out i j k hT).2) (by omega) _)
          · exact ((((hrw.out i x hx).far (fun j k hT => (HT4.out i j k hT).2) (by omega) _).far (fun j k hT => (HT4.out i j k hT).2) (by omega) _).far (fun j k hT => (HT4.out i j k hT).2) (by omega) _)
        have HRM2 : Hid (Room (((wr.setCell ⟨g, k * 5, none⟩ (.int .i64 ((o : Int)))).setCell ⟨g, k * 5 + 1, none⟩ (.int .i64 ((o : Int) + 1))).setCell ⟨g, k * 5 + 2, none⟩ (.int .i64 ((o : Int) + 1 + 1))) g (l.length * 5)) := (((hrm.out.set _ _).set _ _).set _ _)
        have hg2 : g < (((wr.setCell ⟨g, k * 5, none⟩ (.int .i64 ((o : Int)))).setCell ⟨g, k * 5 + 1, none⟩ (.int .i64 ((o : Int) + 1))).setCell ⟨g, k * 5 + 2, none⟩ (.int .i64 ((o : Int) + 1 + 1))).heap.size := by simpa using hgl
        have HL0 : Hid (o + 3 + 2 * l[k].stk.length ≤ 4000000) := by show _ ≤ _; have q1 := HON.out; have q2 := HOL.out; unfold cntF1 at q1; omega
        have HL1 : Hid (o + 3 + 2 * l[k].stk.length + 2 * l[k].loc.length ≤ 4000000) := by show _ ≤ _; have q1 := HON.out; have q2 := HOL.out; unfold cntF1 at q1; omega
        clear c3 c4 hrw hrm
        go_wp2_with fail
        generalize hgen : (((wr.setCell ⟨g, k * 5, none⟩ (.int .i64 ((o : Int)))).setCell ⟨g, k * 5 + 1, none⟩ (.int .i64 ((o : Int) + 1))).setCell ⟨g, k * 5 + 2, none⟩ (.int .i64 ((o : Int) + 1 + 1))) = u0 at *
        clear hgen
        refine (markVals (T k 0) a1 e1 (o + 3) _ (by push_cast; omega) l[k].stk HL0.out _ (HZ0.out.tch HTS.out (fun k2 hk2 => (HT4.out k 0 k2 hk2).2))).mono ?_
        rintro e w1 ⟨rfl, zn0, ht1⟩
        have y2 := (World.cell?_of_block (w := u0) (ht1.far g hg2 (fun h => (HT4.out k 0 g h).2 rfl))).trans y1
        have hg3 : g < w1.heap.size := Nat.lt_of_lt_of_le hg2 ht1.size
        go_wp2_with fail
        refine (markVals (T k 1) a2 e2 (o + 3 + 2 * l[k].stk.length) _ (by push_cast; omega) l[k].loc HL1.out _ (((HZ1.out.tch HTS.out (fun k2 hk2 => (HT4.out k 1 k2 hk2).2)).tch ht1 (fun k2 hk2 hk3 => by have := (HT5.out k 1 k 0 k2 hk2 hk3).2; omega)))).mono ?_
        rintro e w2 ⟨rfl, zn1, ht2⟩
        have HTT : Hid (Tch (fun b => T k 0 b ∨ T k 1 b) u0 w2) := (ht1.mono fun _ h => .inl h).trans (ht2.mono fun _ h => .inr h)
        have HNG : Hid (¬ (T k 0 g ∨ T k 1 g)) := fun h => by rcases h with h | h; exact (HT4.out k 0 g h).2 rfl; exact (HT4.out k 1 g h).2 rfl
        have hgb : w2.heap[g]? = u0.heap[g]? := HTT.out.far g hg2 HNG.out
        have HNEW : Hid (FE (T k) w2 g (k * 5) (markF1 o l[k])) := ⟨_, _, (World.cell?_of_block (w := u0) hgb).trans HI0.out, (World.cell?_of_block (w := u0) hgb).trans HI1.out, (World.cell?_of_block (w := u0) hgb).trans HI2.out, (World.cell?_of_block (w := u0) hgb).trans y0, (World.cell?_of_block (w := u0) hgb).trans y1, (zn0.tch ht2 (fun k2 hk2 hk3 => by have := (HT5.out k 0 k 1 k2 hk2 hk3).2; omega)), zn1⟩
        have HALL : Hid (∀ i x, (midF m l (k + 1))[i]? = some x → FE (T i) w2 g (i * 5) x) := fun i x hx => by
          by_cases hik : i = k
          · subst hik
            rw [midF_at, HX.out] at hx
            simp at hx
            rw [← hx, ← ho.out]
            exact HNEW.out
          · have hx2 : (midF m l k)[i]? = some x := by
              rw [midF_at] at hx ⊢
              have e1 : (i < k + 1) = (i < k) := by apply propext; omega
              rw [← hx]; simp only [e1]
            exact (HOT.out i x hik hx2).tch HTT.out HNG.out (fun j b hT hR => by
              rcases hR with hR | hR
              · exact hik (HT5.out i j k 0 b hT hR).1
              · exact hik (HT5.out i j k 1 b hT hR).1) hg2
        have HRM3 : Hid (Room w2 g (l.length * 5)) := room_moved hgb HRM2.out
        have hg4 : g < w2.heap.size := Nat.lt_of_lt_of_le hg2 HTT.out.size
        have HTC : Hid (Tch S w w2) := hon.out.trans ((HTS.out.mono fun b hb => by subst hb; exact HSG.out).trans (HTT.out.mono fun b hb => by rcases hb with hb | hb; exact (HT4.out k 0 b hb).1; exact (HT4.out k 1 b hb).1))
        have HOF : Hid (o + 3 + 2 * l[k].stk.length + 2 * l[k].loc.length = offF m l (k + 1)) := by show _ = _; rw [HON.out]; unfold cntF1; omega
        have hof4 : o + 3 + 2 * l[k].stk.length + 2 * l[k].loc.length ≤ 4000000 := HL1.out
        clear zn0 zn1 ht1 ht2 HNEW HOT hgb y0 y1 y2
        clear HZ0 HZ1 HI0 HI1 HI2
        generalize o + 3 + 2 * l[k].stk.length + 2 * l[k].loc.length = o2 at *
        go_wp2
        go_roundw
        case rel => exact ⟨k + 1, o2, by omega, by go_num, rfl, HOF.out, hof4, hg4, HRM3.out, HALL.out, HTC.out⟩
        case measure => simp [intOf]; omega
      · have HOE : Hid (o = m + sumN (l.map cntF1)) := by show _ = _; rw [ho.out, offF_end m (by omega)]
        have HME : Hid (midF m l k = marksF m l) := by
          show _ = _
          have e : k = l.length := by omega
          rw [e]
          rfl
        have HFIN : Hid (FZ S wr (.slice (some ⟨g, 0, none⟩) l.length c) (marksF m l)) := by
          have hrm2 := hrm.out
          have hrw2 := hrw.out
          rw [HME.out] at hrw2
          exact .inl ⟨g, c, T, by rw [marksF, midF_len], HSG.out, hgl, by rw [marksF, midF_len]; exact hrm2, HT4.out, HT5.out, hrw2⟩
        go_wp2
        go_ret
        exact ⟨retN (congrArg (fun t : Nat => (t : Int)) HOE.out), HFIN.out, hon.out⟩
  · rw [hv]
    go_enter Try.func47, Try.ntmps47
    go_wp2
    go_loopw [1, 5] (fun q i wr => q = .int .i64 (m : Int) ∧ i = .int .i64 0 ∧ wr = w) (fun _ _ _ => 0)
    case atStart => exact ⟨rfl, rfl, rfl⟩
    case round =>
      obtain ⟨rfl, rfl, rfl⟩ := hrel
      go_wp2
      go_ret
      exact ⟨by simp [sumN], .inr ⟨rfl, rfl⟩, Tch.refl _ _⟩
end Pg
end Go.Proofs.Ytobaeenngffndaa
