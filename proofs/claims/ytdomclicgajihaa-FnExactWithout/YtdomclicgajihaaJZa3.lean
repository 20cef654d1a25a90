/- The numbers of a program in memory, as addresses in their order; numbers written one behind the other. -/
import Derived.Test.YtdomclicgajihaaJPm1
namespace Go.Proofs.Ytdomclicgajihaa
namespace Pg
open Go.ChangeShapes Go.WideShapes Go.ChangeAt Go.RowKit St

/-- From u to v the addresses L have got numbers from q on, and no other cell has turned. -/
structure Ex (L : List Addr) (q : Nat) (u v : World) : Prop where
  hit : ∀ i p, L[i]? = some p → v.cell? p = some (.int .i64 ((q + i : Nat) : Int))
  oth : ∀ p, p ∉ L → p.block < u.heap.size → v.cell? p = u.cell? p
theorem Ex.nil (q : Nat) (u : World) : Ex [] q u u := ⟨fun i p h => by simp at h, fun _ _ _ => rfl⟩
theorem Ex.one {u : World} {p : Addr} {x : Value} (hx : u.cell? p = some x) (q : Nat) : Ex [p] q u (u.setCell p (.int .i64 (q : Int))) := by
  refine ⟨fun i r h => ?_, fun r hr _ => World.cell?_setCell_other _ _ _ _ (fun e => hr (by rw [e]; simp))⟩
  match i, h with
  | 0, h => simp at h; subst h; exact World.cell?_setCell_same _ _ _ hx
theorem Ex.app {L1 L2 : List Addr} {q q2 : Nat} {u v w : World} (h1 : Ex L1 q u v) (h2 : Ex L2 q2 v w) (hq : q2 = q + L1.length) (hd : ∀ p ∈ L1, p ∉ L2) (hl : ∀ p ∈ L1, p.block < u.heap.size) (hs : u.heap.size ≤ v.heap.size) : Ex (L1 ++ L2) q u w := by
  subst hq
  refine ⟨fun i p h => ?_, fun p hp hb => ?_⟩
  · by_cases hi : i < L1.length
    · rw [List.getElem?_append_left hi] at h
      have hm := List.mem_of_getElem? h
      rw [h2.oth p (hd p hm) (Nat.lt_of_lt_of_le (hl p hm) hs)]
      exact h1.hit i p h
    · rw [List.getElem?_append_right (by omega)] at h
      rw [h2.hit _ p h]
      congr 2
      omega
  · rw [List.mem_append, not_or] at hp
    rw [h2.oth p hp.2 (Nat.lt_of_lt_of_le hb hs)]
    exact h1.oth p hp.1 hb

def cellD (w : World) (p : Addr) : Value := (w.cell? p).getD undef
/-- The addresses of n numbers of a slice. -/
def adN (v : Value) (n : Nat) : List Addr := match v with
  | .slice (some ⟨b, o, none⟩) _ _ => (List.range n).map fun j => ⟨b, o + j, none⟩
  | _ => []
theorem adN_at (b o n' cap n : Nat) : adN (.slice (some ⟨b, o, none⟩) n' cap) n = (List.range n).map fun j => (⟨b, o + j, none⟩ : Addr) := rfl
theorem adN_zero (v : Value) : adN v 0 = [] := by unfold adN; split <;> rfl
theorem adN_succ (b o n' cap n : Nat) : adN (.slice (some ⟨b, o, none⟩) n' cap) (n + 1) = adN (.slice (some ⟨b, o, none⟩) n' cap) n ++ [⟨b, o + n, none⟩] := by
  rw [adN_at, adN_at, List.range_succ, List.map_append]; rfl
theorem adN_mem {b o n' cap n : Nat} {p : Addr} (h : p ∈ adN (.slice (some ⟨b, o, none⟩) n' cap) n) : p.block = b ∧ p.spot = none ∧ o ≤ p.off ∧ p.off < o + n := by
  rw [adN_at] at h
  obtain ⟨j, hj, rfl⟩ := List.mem_map.1 h
  have := List.mem_range.1 hj
  exact ⟨rfl, rfl, by show o ≤ o + j; omega, by show o + j < o + n; omega⟩
theorem shN_ad {sz B1 B2 : Nat} {w : World} {v : Value} {n : Nat} (h : ShN sz B1 B2 w v n) : (adN v (n * sz)).length = n * sz ∧ ∀ p ∈ adN v (n * sz), NumW w p := by
  obtain ⟨a, cap, rfl, h⟩ := h
  rcases Nat.eq_zero_or_pos n with rfl | h0
  · rw [Nat.zero_mul, adN_zero]; exact ⟨rfl, fun p hp => by simp at hp⟩
  · obtain ⟨b, o, rfl, h1, h2, h3⟩ := h h0
    refine ⟨by rw [adN_at]; simp, fun p hp => ?_⟩
    rw [adN_at] at hp
    obtain ⟨j, hj, rfl⟩ := List.mem_map.1 hp
    exact h3 j (List.mem_range.1 hj)
/-- The addresses of a method's numbers, of some methods', of a class's, of a program's. -/
def adM (w : World) (b o : Nat) (m : Meth) : List Addr := ⟨b, o, none⟩ :: (adN (cellD w ⟨b, o + 1, none⟩) m.args.length ++ ⟨b, o + 2, none⟩ :: adN (cellD w ⟨b, o + 3, none⟩) (m.code.length * 3))
def adMl (w : World) (b : Nat) : Nat → List Meth → List Addr
  | _, [] => []
  | o, m :: ms => adM w b o m ++ adMl w b (o + 4) ms
def adMs (w : World) (v : Value) (ms : List Meth) : List Addr := match v with
  | .slice (some ⟨b, o, none⟩) _ _ => adMl w b o ms
  | _ => []
def adC (w : World) (b o : Nat) (c : Cls) : List Addr := ⟨b, o, none⟩ :: (adN (cellD w ⟨b, o + 1, none⟩) c.fields.length ++ adMs w (cellD w ⟨b, o + 2, none⟩) c.meths)
def adCl (w : World) (b : Nat) : Nat → List Cls → List Addr
  | _, [] => []
  | o, c :: cs => adC w b o c ++ adCl w b (o + 3) cs
def adP (w : World) (v : Value) (p : Prg) : List Addr := match v with
  | .slice (some ⟨b, o, none⟩) _ _ => adCl w b o p
  | _ => []
theorem adMl_app (w : World) (b : Nat) : ∀ (ms ns : List Meth) (o : Nat), adMl w b o (ms ++ ns) = adMl w b o ms ++ adMl w b (o + ms.length * 4) ns
  | [], ns, o => by simp [adMl]
  | m :: ms, ns, o => by
    simp only [List.cons_append, adMl, adMl_app w b ms ns (o + 4), List.append_assoc, List.length_cons]
    rw [show o + 4 + ms.length * 4 = o + (ms.length + 1) * 4 by omega]
theorem adCl_app (w : World) (b : Nat) : ∀ (ms ns : List Cls) (o : Nat), adCl w b o (ms ++ ns) = adCl w b o ms ++ adCl w b (o + ms.length * 3) ns
  | [], ns, o => by simp [adCl]
  | m :: ms, ns, o => by
    simp only [List.cons_append, adCl, adCl_app w b ms ns (o + 3), List.append_assoc, List.length_cons]
    rw [show o + 3 + ms.length * 3 = o + (ms.length + 1) * 3 by omega]
theorem adMl_take (w : World) (b o : Nat) {ms : List Meth} {k : Nat} (h : k < ms.length) : adMl w b o (ms.take (k + 1)) = adMl w b o (ms.take k) ++ adM w b (o + k * 4) ms[k] := by
  rw [List.take_succ_eq_append_getElem h, adMl_app, List.length_take, Nat.min_eq_left (by omega)]
  simp [adMl]
theorem adCl_take (w : World) (b o : Nat) {ms : List Cls} {k : Nat} (h : k < ms.length) : adCl w b o (ms.take (k + 1)) = adCl w b o (ms.take k) ++ adC w b (o + k * 3) ms[k] := by
  rw [List.take_succ_eq_append_getElem h, adCl_app, List.length_take, Nat.min_eq_left (by omega)]
  simp [adCl]
/-- Headers do not turn where numbers alone do. -/
theorem cellD_mrk {B1 B2 : Nat} {u v : World} (hm : Mrk B1 B2 u v) {p : Addr} {x : Value} (hx : u.cell? p = some x) (hs : ∃ a n c, x = .slice a n c) : cellD v p = x ∧ cellD u p = x := by
  obtain ⟨a, n, c, rfl⟩ := hs
  unfold cellD
  rw [hm.slice hx, hx]
  exact ⟨rfl, rfl⟩
theorem adM_mrk {B1 B2 C1 C2 : Nat} {u v : World} (hm : Mrk B1 B2 u v) {b o : Nat} {m : Meth} (h : ShMat C1 C2 u b o m) : adM v b o m = adM u b o m := by
  obtain ⟨va, vc, _, h1, _, h3, h4, h5⟩ := h
  obtain ⟨a1, c1, rfl⟩ := h4.form
  obtain ⟨a2, c2, rfl⟩ := h5.form
  unfold adM
  rw [(cellD_mrk hm h1 ⟨_, _, _, rfl⟩).1, (cellD_mrk hm h1 ⟨_, _, _, rfl⟩).2, (cellD_mrk hm h3 ⟨_, _, _, rfl⟩).1, (cellD_mrk hm h3 ⟨_, _, _, rfl⟩).2]
theorem adM_of {C1 C2 : Nat} {u : World} {b o : Nat} {m : Meth} (h : ShMat C1 C2 u b o m) : (adM u b o m).length = cntM m ∧ ∀ p ∈ adM u b o m, NumW u p := by
  obtain ⟨va, vc, h0, h1, h2, h3, h4, h5⟩ := h
  have e1 : cellD u ⟨b, o + 1, none⟩ = va := by unfold cellD; rw [h1]; rfl
  have e3 : cellD u ⟨b, o + 3, none⟩ = vc := by unfold cellD; rw [h3]; rfl
  obtain ⟨l4, n4⟩ := shN_ad h4
  obtain ⟨l5, n5⟩ := shN_ad h5
  rw [Nat.mul_one] at l4 n4
  unfold adM cntM
  rw [e1, e3]
  refine ⟨by simp only [List.length_cons, List.length_append, l4, l5]; omega, fun p hp => ?_⟩
  simp only [List.mem_cons, List.mem_append] at hp
  rcases hp with rfl | hp | rfl | hp
  · exact h0
  · exact n4 p hp
  · exact h2
  · exact n5 p hp
end Pg
end Go.Proofs.Ytdomclicgajihaa

/- The laws' own marking of programs: what it writes, to the number. -/
namespace Go.Proofs.Ytdomclicgajihaa
namespace Pg
open Go.ChangeShapes Go.WideShapes Go.ChangeAt Go.RowKit St

theorem Ex.of {u w : World} (q : Nat) (h : Below u.heap.size u w) : Ex [] q u w := ⟨fun i p h => by simp at h, fun _ _ hb => h.cell hb⟩
theorem Ex.push {b o n' cap m j : Nat} {w wr : World} {x : Value} (h : Ex (adN (.slice (some ⟨b, o, none⟩) n' cap) j) m w wr) (hx : wr.cell? ⟨b, o + j, none⟩ = some x) (hb : b < w.heap.size) (hs : w.heap.size ≤ wr.heap.size) :
    Ex (adN (.slice (some ⟨b, o, none⟩) n' cap) (j + 1)) m w (wr.setCell ⟨b, o + j, none⟩ (.int .i64 ((m + j : Nat) : Int))) := by
  rw [adN_succ]
  refine h.app (Ex.one hx (m + j)) (by rw [adN_at]; simp) (fun p hp hq => ?_) (fun p hp => ?_) hs
  · have := adN_mem hp
    simp at hq
    rw [hq] at this
    obtain ⟨_, _, _, h⟩ := this
    exact absurd h (Nat.lt_irrefl _)
  · rw [(adN_mem hp).1]; exact hb
set_option maxRecDepth 100000 in
set_option maxHeartbeats 1000000 in
theorem markIntsE (B1 B2 : Nat) (a : Option Addr) (cap m n : Nat) (hm : m + n ≤ 4000000) (w : World) (hs : ShN 1 B1 B2 w (.slice a n cap) n) :
    Calls Try.prog 16 #[.slice a n cap, .int .i64 m] w fun e w' => e = .returned (.int .i64 ((m + n : Nat) : Int)) ∧ Mrk B1 B2 w w' ∧ Ex (adN (.slice a n cap) n) m w w' := by
  have HS : Hid (ShN 1 B1 B2 w (.slice a n cap) n) := hs
  clear hs
  go_enter Try.func16, Try.ntmps16
  go_wp2
  go_loopw [1, 5] (fun q i wr => ∃ k : Nat, k ≤ n ∧ i = .int .i64 k ∧ q = .int .i64 ((m : Int) + (k : Int)) ∧ Hid (Mrk B1 B2 w wr) ∧ Hid (Ex (adN (.slice a n cap) k) m w wr)) (fun _ i _ => n - (intOf i).toNat)
  case atStart => exact ⟨0, Nat.zero_le _, rfl, by simp, Mrk.refl _ _ _, by show Ex _ _ _ _; rw [adN_zero]; exact Ex.nil _ _⟩
  case round =>
    obtain ⟨k, hk, rfl, rfl, hon, hex⟩ := hrel
    by_cases hlt : k < n
    · have hki : (k : Int) < (n : Int) := by omega
      obtain ⟨a', c', he, hx⟩ := HS.out.mrk hon.out
      obtain ⟨a0', c0', he0, hx0⟩ := HS.out
      injection he with e1 e2 e3
      injection he0 with f1 f2 f3
      subst e1
      subst f1
      obtain ⟨b, o, rfl, h1, h2, h3⟩ := hx (by omega)
      obtain ⟨b', o', hbo, _, _, h30⟩ := hx0 (by omega)
      injection hbo with hbo
      injection hbo with g1 g2
      subst g1 g2
      obtain ⟨⟨x0, d0⟩, f0⟩ := h3 k (by omega)
      have HNX : Hid (Mrk B1 B2 w (wr.setCell ⟨b, o + k, none⟩ (.int .i64 ((m : Int) + (k : Int))))) := hon.out.trans (Mrk.set wr (p := ⟨b, o + k, none⟩) h1 h2 d0 _)
      have HEX : Hid (Ex (adN (.slice (some ⟨b, o, none⟩) n cap) (k + 1)) m w (wr.setCell ⟨b, o + k, none⟩ (.int .i64 ((m : Int) + (k : Int))))) := by
        show Ex _ _ _ _
        rw [adN_succ]
        have h := Ex.one (u := wr) d0 (m + k)
        rw [show (((m + k : Nat)) : Int) = (m : Int) + (k : Int) by omega] at h
        refine hex.out.app h (by rw [adN_at]; simp) (fun p hp hq => ?_) (fun p hp => ?_) hon.out.size
        · have := adN_mem hp
          simp at hq
          rw [hq] at this
          obtain ⟨_, _, _, h⟩ := this
          exact absurd h (Nat.lt_irrefl _)
        · rw [adN_at] at hp
          obtain ⟨j, hj, rfl⟩ := List.mem_map.1 hp
          obtain ⟨⟨y, hy⟩, _⟩ := h30 j (by have := List.mem_range.1 hj; omega)
          exact cell_lt hy
      clear hx h3 hx0 h30 hon hex
      go_wp2
      go_roundw
      case rel => exact ⟨k + 1, by omega, by go_num, by go_num, HNX.out, HEX.out⟩
      case measure => simp [intOf]; omega
    · obtain rfl : k = n := by omega
      go_wp2
      go_ret
      exact ⟨by push_cast; rfl, hon.out, hex.out⟩
set_option maxRecDepth 100000 in
set_option maxHeartbeats 1000000 in
theorem markInsnsE (B1 B2 : Nat) (a : Option Addr) (cap m n : Nat) (hm : m + 3 * n ≤ 4000000) (w : World) (hs : ShN 3 B1 B2 w (.slice a n cap) n) :
    Calls Try.prog 71 #[.slice a n cap, .int .i64 m] w fun e w' => e = .returned (.int .i64 ((m + 3 * n : Nat) : Int)) ∧ Mrk B1 B2 w w' ∧ Ex (adN (.slice a n cap) (n * 3)) m w w' := by
  have HS : Hid (ShN 3 B1 B2 w (.slice a n cap) n) := hs
  clear hs
  go_enter Try.func71, Try.ntmps71
  go_wp2
  go_loopw [1, 5] (fun q i wr => ∃ k : Nat, k ≤ n ∧ i = .int .i64 k ∧ q = .int .i64 ((m : Int) + 3 * (k : Int)) ∧ Hid (Mrk B1 B2 w wr) ∧ Hid (Ex (adN (.slice a n cap) (k * 3)) m w wr)) (fun _ i _ => n - (intOf i).toNat)
  case atStart => exact ⟨0, Nat.zero_le _, rfl, by simp, Mrk.refl _ _ _, by show Ex _ _ _ _; rw [Nat.zero_mul, adN_zero]; exact Ex.nil _ _⟩
  case round =>
    obtain ⟨k, hk, rfl, rfl, hon, hex⟩ := hrel
    by_cases hlt : k < n
    · have hki : (k : Int) < (n : Int) := by omega
      obtain ⟨a', c', he, hx⟩ := HS.out.mrk hon.out
      obtain ⟨a0', c0', he0, hx0⟩ := HS.out
      injection he with e1 e2 e3
      injection he0 with f1 f2 f3
      subst e1
      subst f1
      obtain ⟨b, o, rfl, h1, h2, h3⟩ := hx (by omega)
      obtain ⟨b', o', hbo, _, _, h30⟩ := hx0 (by omega)
      injection hbo with hbo
      injection hbo with g1 g2
      subst g1 g2
      have hbw : b < w.heap.size := by
        obtain ⟨⟨y, hy⟩, _⟩ := h30 0 (by omega)
        exact cell_lt hy
      obtain ⟨⟨x0, d0⟩, f0⟩ := h3 (k * 3) (by omega)
      obtain ⟨⟨x1, d1⟩, f1⟩ := h3 (k * 3 + 1) (by omega)
      obtain ⟨⟨x2, d2⟩, f2⟩ := h3 (k * 3 + 2) (by omega)
      have M1 := Mrk.set (B1 := B1) (B2 := B2) wr (p := ⟨b, o + k * 3, none⟩) h1 h2 d0 ((m : Int) + 3 * (k : Int))
      obtain ⟨y1, e1⟩ := M1.int d1
      obtain ⟨y2, e2⟩ := M1.int d2
      have M2 := Mrk.set (B1 := B1) (B2 := B2) _ (p := ⟨b, o + (k * 3 + 1), none⟩) h1 h2 e1 ((m : Int) + 3 * (k : Int) + 1)
      obtain ⟨y3, e3⟩ := M2.int e2
      have M3 := Mrk.set (B1 := B1) (B2 := B2) _ (p := ⟨b, o + (k * 3 + 2), none⟩) h1 h2 e3 ((m : Int) + 3 * (k : Int) + 1 + 1)
      have q0 : ((m + k * 3 : Nat) : Int) = (m : Int) + 3 * (k : Int) := by omega
      have q1 : ((m + (k * 3 + 1) : Nat) : Int) = (m : Int) + 3 * (k : Int) + 1 := by omega
      have q2 : ((m + (k * 3 + 2) : Nat) : Int) = (m : Int) + 3 * (k : Int) + 1 + 1 := by omega
      have E1 := hex.out.push (j := k * 3) d0 hbw hon.out.size
      rw [q0] at E1
      have E2 := E1.push (j := k * 3 + 1) e1 hbw (hon.out.trans M1).size
      rw [q1] at E2
      have E3 := E2.push (j := k * 3 + 2) e3 hbw ((hon.out.trans M1).trans M2).size
      rw [q2] at E3
      rw [← Nat.add_assoc] at d1 f1 d2 f2 M2 M3 E2 E3
      rw [← Nat.add_assoc] at M3 E3
      have HNX : Hid (Mrk B1 B2 w (((wr.setCell ⟨b, o + k * 3, none⟩ (.int .i64 ((m : Int) + 3 * (k : Int)))).setCell ⟨b, o + k * 3 + 1, none⟩ (.int .i64 ((m : Int) + 3 * (k : Int) + 1))).setCell ⟨b, o + k * 3 + 2, none⟩ (.int .i64 ((m : Int) + 3 * (k : Int) + 1 + 1)))) := hon.out.trans ((M1.trans M2).trans M3)
      have HEX : Hid (Ex (adN (.slice (some ⟨b, o, none⟩) n cap) ((k + 1) * 3)) m w (((wr.setCell ⟨b, o + k * 3, none⟩ (.int .i64 ((m : Int) + 3 * (k : Int)))).setCell ⟨b, o + k * 3 + 1, none⟩ (.int .i64 ((m : Int) + 3 * (k : Int) + 1))).setCell ⟨b, o + k * 3 + 2, none⟩ (.int .i64 ((m : Int) + 3 * (k : Int) + 1 + 1)))) := by
        show Ex _ _ _ _
        rw [show (k + 1) * 3 = k * 3 + 2 + 1 by omega]
        exact E3
      clear hx h3 hx0 h30 M1 M2 M3 E1 E2 E3 hon hex q0 q1 q2
      go_wp2
      go_roundw
      case rel => exact ⟨k + 1, by omega, by go_num, by go_num, HNX.out, HEX.out⟩
      case measure => simp [intOf]; omega
    · obtain rfl : k = n := by omega
      go_wp2
      go_ret
      exact ⟨by push_cast; rfl, hon.out, hex.out⟩
end Pg
end Go.Proofs.Ytdomclicgajihaa

/- The laws' own marking of methods, classes and programs: what it writes, to the number. -/
namespace Go.Proofs.Ytdomclicgajihaa
namespace Pg
open Go.ChangeShapes Go.WideShapes Go.ChangeAt Go.RowKit St

theorem ex_four {p0 p2 : Addr} {LB LD : List Addr} {q q1 q2 q3 : Nat} {u w1 w2 w3 w4 : World} (hn : (p0 :: (LB ++ p2 :: LD)).Nodup) (hl : ∀ p ∈ p0 :: (LB ++ p2 :: LD), p.block < u.heap.size)
    (A : Ex [p0] q u w1) (B : Ex LB q1 w1 w2) (C : Ex [p2] q2 w2 w3) (D : Ex LD q3 w3 w4) (e1 : q1 = q + 1) (e2 : q2 = q1 + LB.length) (e3 : q3 = q2 + 1) (s1 : u.heap.size ≤ w1.heap.size) (s2 : u.heap.size ≤ w2.heap.size) (s3 : u.heap.size ≤ w3.heap.size) : Ex (p0 :: (LB ++ p2 :: LD)) q u w4 := by
  rw [List.nodup_cons, List.nodup_append, List.nodup_cons] at hn
  obtain ⟨n0, _, ⟨n2, _⟩, n3⟩ := hn
  have hAB := A.app B (by simpa using e1) (fun p hp hq => by simp at hp; subst hp; exact n0 (List.mem_append.2 (.inl hq))) (fun p hp => by simp at hp; subst hp; exact hl _ (by simp)) s1
  have hABC := hAB.app C (by simp; omega) (fun p hp hq => by
    simp at hq
    subst hq
    rcases List.mem_append.1 hp with h | h
    · simp at h; subst h; exact n0 (List.mem_append.2 (.inr List.mem_cons_self))
    · exact n3 _ h _ List.mem_cons_self rfl) (fun p hp => hl p (by
      rcases List.mem_append.1 hp with h | h
      · simp at h; subst h; exact List.mem_cons_self
      · exact List.mem_cons_of_mem _ (List.mem_append.2 (.inl h)))) s2
  have hall := hABC.app D (by simp; omega) (fun p hp hq => by
    rcases List.mem_append.1 hp with h | h
    · rcases List.mem_append.1 h with h | h
      · simp at h; subst h; exact n0 (List.mem_append.2 (.inr (List.mem_cons_of_mem _ hq)))
      · exact n3 _ h _ (List.mem_cons_of_mem _ hq) rfl
    · simp at h; subst h; exact n2 hq) (fun p hp => hl p (by
      rcases List.mem_append.1 hp with h | h
      · rcases List.mem_append.1 h with h | h
        · simp at h; subst h; exact List.mem_cons_self
        · exact List.mem_cons_of_mem _ (List.mem_append.2 (.inl h))
      · simp at h; subst h; exact List.mem_cons_of_mem _ (List.mem_append.2 (.inr List.mem_cons_self)))) s3
  have e : ([p0] ++ LB ++ [p2] ++ LD) = p0 :: (LB ++ p2 :: LD) := by simp
  rw [e] at hall
  exact hall
theorem slice_eq {B1 B2 : Nat} {u v : World} (hm : Mrk B1 B2 u v) {p : Addr} {a a' : Option Addr} {n n' c c' : Nat} (h : u.cell? p = some (.slice a n c)) (h' : v.cell? p = some (.slice a' n' c')) : cellD u p = .slice a' n' c' := by
  have := hm.slice h
  rw [h'] at this
  unfold cellD
  rw [h]
  exact (Option.some.inj this).symm
theorem adMl_nodup {w : World} {b o : Nat} {ms : List Meth} {k : Nat} (hk : k < ms.length) (h : (adMl w b o ms).Nodup) : (adMl w b o (ms.take k) ++ adM w b (o + k * 4) ms[k]).Nodup := by
  rw [← adMl_take w b o hk]
  have e : ms = ms.take (k + 1) ++ ms.drop (k + 1) := (List.take_append_drop _ _).symm
  rw [e, adMl_app] at h
  exact (List.nodup_append.1 h).1
/-- All addresses of the first methods are numbers. -/
theorem adMl_num {C1 C2 : Nat} {w : World} {b o : Nat} {ms : List Meth} (h : ∀ j x, ms[j]? = some x → ShMat C1 C2 w b (o + j * 4) x) : (adMl w b o ms).length = cntMs ms ∧ ∀ p ∈ adMl w b o ms, NumW w p := by
  induction ms generalizing o with
  | nil => exact ⟨rfl, fun p hp => by simp [adMl] at hp⟩
  | cons m ms ih =>
    obtain ⟨l1, n1⟩ := adM_of (h 0 m rfl)
    have := ih (o := o + 4) (fun j x hj => by
      have := h (j + 1) x (by simpa using hj)
      rw [show o + (j + 1) * 4 = o + 4 + j * 4 by omega] at this
      exact this)
    rw [Nat.zero_mul, Nat.add_zero] at l1 n1
    refine ⟨?_, fun p hp => ?_⟩
    · simp only [adMl, List.length_append, l1, this.1]
      simp [cntMs, sumN]
    · rcases List.mem_append.1 hp with hp | hp
      · exact n1 p hp
      · exact this.2 p hp

set_option maxRecDepth 100000 in
set_option maxHeartbeats 2000000 in
theorem markMethodsE (B1 B2 : Nat) (a : Option Addr) (cap q : Nat) (ms : List Meth) (hn : ms.length ≤ 1048576) (hq : q + cntMs ms ≤ 4000000) (w : World) (hs : ShM B1 B2 w (.slice a ms.length cap) ms) (hnd : (adMs w (.slice a ms.length cap) ms).Nodup) :
    Calls Try.prog 50 #[.slice a ms.length cap, .int .i64 q] w fun e w' => e = .returned (.int .i64 ((q + cntMs ms : Nat) : Int)) ∧ Mrk B1 B2 w w' ∧ Ex (adMs w (.slice a ms.length cap) ms) q w w' := by
  have HS : Hid (ShM B1 B2 w (.slice a ms.length cap) ms) := hs
  have HND : Hid (adMs w (.slice a ms.length cap) ms).Nodup := hnd
  clear hs hnd
  go_enter Try.func50, Try.ntmps50
  go_wp2
  go_loopw [1, 5] (fun v i wr => ∃ k c : Nat, k ≤ ms.length ∧ i = .int .i64 k ∧ v = .int .i64 c ∧ Hid (c = q + cntMs (ms.take k)) ∧ Hid (Mrk B1 B2 w wr) ∧ Hid (Ex (adMs w (.slice a ms.length cap) (ms.take k)) q w wr)) (fun _ i _ => ms.length - (intOf i).toNat)
  case atStart => exact ⟨0, q, Nat.zero_le _, rfl, rfl, by show _ = _; simp [cntMs, sumN], Mrk.refl _ _ _, by
    show Ex _ _ _ _
    have e : adMs w (.slice a ms.length cap) (ms.take 0) = [] := by rw [List.take_zero]; unfold adMs; split <;> rfl
    rw [e]; exact Ex.nil _ _⟩
  case round =>
    obtain ⟨k, c, hk, rfl, rfl, hc, hon, hex⟩ := hrel
    by_cases hlt : k < ms.length
    · have hki : (k : Int) < (ms.length : Int) := by omega
      have HST : Hid (cntMs (ms.take (k + 1)) = cntMs (ms.take k) + cntM ms[k]) := cnt_step hlt
      have hbd : c + cntM ms[k] ≤ 4000000 := by
        have h1 := HST.out
        have h2 := cnt_take ms (k + 1)
        have h3 := hc.out
        omega
      have HS0 : Hid (ShM B1 B2 wr (.slice a ms.length cap) ms) := HS.out.mrk hon.out
      obtain ⟨b, o, rfl, h1, h2, va0, vc0, ⟨⟨x0, d0⟩, f0⟩, _⟩ := HS0.out.at hlt
      have HAT : Hid (∀ u, Mrk B1 B2 wr u → ShMat B1 B2 u b (o + k * 4) ms[k]) := fun u hu => by
        obtain ⟨b', o', he, _, _, hm⟩ := (HS0.out.mrk hu).at hlt
        simp at he
        obtain ⟨rfl, rfl⟩ := he
        exact hm
      have HALL : Hid (∀ j x, ms[j]? = some x → ShMat B1 B2 w b (o + j * 4) x) := fun j x hj => by
        obtain ⟨hjl, rfl⟩ := List.getElem?_eq_some_iff.1 hj
        obtain ⟨b', o', he, _, _, hm⟩ := HS.out.at hjl
        simp at he
        obtain ⟨rfl, rfl⟩ := he
        exact hm
      have HNK : Hid (adMl w b o (ms.take k) ++ adM w b (o + k * 4) ms[k]).Nodup := adMl_nodup hlt HND.out
      have HTK : Hid (adMl w b o (ms.take (k + 1)) = adMl w b o (ms.take k) ++ adM w b (o + k * 4) ms[k]) := adMl_take w b o hlt
      have HPRE : Hid ((adMl w b o (ms.take k)).length = cntMs (ms.take k) ∧ ∀ p ∈ adMl w b o (ms.take k), p.block < w.heap.size) := by
        have h := adMl_num (ms := ms.take k) (C1 := B1) (C2 := B2) (w := w) (b := b) (o := o) (fun j x hj => by
          rw [List.getElem?_take] at hj
          split at hj
          · exact HALL.out j x hj
          · simp at hj)
        exact ⟨h.1, fun p hp => by obtain ⟨⟨y, hy⟩, _⟩ := h.2 p hp; exact cell_lt hy⟩
      have HADM : Hid (adM wr b (o + k * 4) ms[k] = adM w b (o + k * 4) ms[k] ∧ (adM w b (o + k * 4) ms[k]).length = cntM ms[k] ∧ ∀ p ∈ adM wr b (o + k * 4) ms[k], p.block < wr.heap.size) := by
        have hk0 := HALL.out k _ (List.getElem?_eq_getElem hlt)
        refine ⟨adM_mrk hon.out hk0, (adM_of hk0).1, fun p hp => ?_⟩
        obtain ⟨⟨y, hy⟩, _⟩ := (adM_of (HAT.out wr (Mrk.refl _ _ _))).2 p hp
        exact cell_lt hy
      generalize ms[k] = m at *
      have em : cntM m = 2 + m.args.length + 3 * m.code.length := rfl
      have M1 : Hid (Mrk B1 B2 wr (wr.setCell ⟨b, o + k * 4, none⟩ (.int .i64 c))) := Mrk.set wr (p := ⟨b, o + k * 4, none⟩) h1 h2 d0 c
      have EA : Hid (Ex [⟨b, o + k * 4, none⟩] c wr (wr.setCell ⟨b, o + k * 4, none⟩ (.int .i64 c))) := Ex.one d0 c
      obtain ⟨va, vc, _, c1, _, _, hva, _⟩ := HAT.out _ M1.out
      obtain ⟨a1, y1, rfl⟩ := hva.form
      have HVA : Hid (ShN 1 B1 B2 (wr.setCell ⟨b, o + k * 4, none⟩ (.int .i64 c)) (.slice a1 m.args.length y1) m.args.length) := hva
      have HDA : Hid (cellD wr ⟨b, o + k * 4 + 1, none⟩ = .slice a1 m.args.length y1) := by
        obtain ⟨va', vc', _, c1', _, _, hva', _⟩ := HAT.out wr (Mrk.refl _ _ _)
        obtain ⟨a1', y1', rfl⟩ := hva'.form
        exact slice_eq M1.out c1' c1
      have HLA : Hid ((adN (.slice a1 m.args.length y1) m.args.length).length = m.args.length) := by
        have := (shN_ad hva).1
        rw [Nat.mul_one] at this
        exact this
      clear hva HS0
      go_wp2_with fail
      have e1 : ((c : Int) + 1) = ((c + 1 : Nat) : Int) := by omega
      rw [e1]
      clear e1
      refine (markIntsE B1 B2 a1 y1 (c + 1) m.args.length (by omega) _ HVA.out).mono ?_
      rintro e w2 ⟨rfl, hm2, hx2⟩
      have EB : Hid (Ex (adN (.slice a1 m.args.length y1) m.args.length) (c + 1) (wr.setCell ⟨b, o + k * 4, none⟩ (.int .i64 c)) w2) := hx2
      have M2 : Hid (Mrk B1 B2 wr w2) := M1.out.trans hm2
      have HZ1 : Hid (wr.heap.size ≤ (wr.setCell ⟨b, o + k * 4, none⟩ (.int .i64 c)).heap.size) := M1.out.size
      clear hm2 c1 d0 f0 HVA M1 hx2
      generalize wr.setCell ⟨b, o + k * 4, none⟩ (.int .i64 c) = w1 at *
      obtain ⟨_, _, _, _, ⟨⟨x2, d2⟩, f2⟩, _⟩ := HAT.out _ M2.out
      have EC : Hid (Ex [⟨b, o + k * 4 + 2, none⟩] (c + 1 + m.args.length) w2 (w2.setCell ⟨b, o + k * 4 + 2, none⟩ (.int .i64 ((c + 1 + m.args.length : Nat) : Int)))) := Ex.one d2 _
      have M3 : Hid (Mrk B1 B2 wr (w2.setCell ⟨b, o + k * 4 + 2, none⟩ (.int .i64 ((c + 1 + m.args.length : Nat) : Int)))) := M2.out.trans (Mrk.set w2 (p := ⟨b, o + k * 4 + 2, none⟩) h1 h2 d2 _)
      obtain ⟨va3, vc3, _, _, _, c3, _, hvc⟩ := HAT.out _ M3.out
      obtain ⟨a3, y3, rfl⟩ := hvc.form
      have HVC : Hid (ShN 3 B1 B2 (w2.setCell ⟨b, o + k * 4 + 2, none⟩ (.int .i64 ((c + 1 + m.args.length : Nat) : Int))) (.slice a3 m.code.length y3) m.code.length) := hvc
      have HDC : Hid (cellD wr ⟨b, o + k * 4 + 3, none⟩ = .slice a3 m.code.length y3) := by
        obtain ⟨va', vc', _, _, _, c3', _, hvc'⟩ := HAT.out wr (Mrk.refl _ _ _)
        obtain ⟨a1', y1', rfl⟩ := hvc'.form
        exact slice_eq M3.out c3' c3
      clear hvc
      generalize hcc : c + 1 + m.args.length = cc at *
      have HCC : Hid (c + 1 + m.args.length = cc) := hcc
      have hcc2 : cc ≤ 4000000 := by omega
      have hcc3 : cc + 1 + 3 * m.code.length ≤ 4000000 := by omega
      clear hcc
      go_wp2_with fail
      have e2 : ((cc : Int) + 1) = ((cc + 1 : Nat) : Int) := by omega
      rw [e2]
      clear e2
      refine (markInsnsE B1 B2 a3 y3 (cc + 1) m.code.length hcc3 _ HVC.out).mono ?_
      rintro e w4 ⟨rfl, hm4, hx4⟩
      have M4 : Hid (Mrk B1 B2 w w4) := hon.out.trans (M3.out.trans hm4)
      have HC4 : Hid (cc + 1 + 3 * m.code.length = q + cntMs (ms.take (k + 1))) := by
        show _ = _
        have h1 := HST.out
        have h2 := hc.out
        have h3 := HCC.out
        omega
      have E4 : Hid (Ex (adMs w (.slice (some ⟨b, o, none⟩) ms.length cap) (ms.take (k + 1))) q w w4) := by
        show Ex (adMl w b o (ms.take (k + 1))) q w w4
        rw [HTK.out]
        have eM : adM wr b (o + k * 4) m = ⟨b, o + k * 4, none⟩ :: (adN (.slice a1 m.args.length y1) m.args.length ++ ⟨b, o + k * 4 + 2, none⟩ :: adN (.slice a3 m.code.length y3) (m.code.length * 3)) := by
          unfold adM
          rw [HDA.out, HDC.out]
        obtain ⟨i1, i2, i3⟩ := HADM.out
        obtain ⟨n1, n2, n3⟩ := List.nodup_append.1 HNK.out
        have hw : Ex (adM w b (o + k * 4) m) c wr w4 := by
          rw [← i1, eM] at n2 ⊢
          rw [eM] at i3
          exact ex_four n2 i3 EA.out EB.out EC.out hx4 rfl (by rw [HLA.out]; exact HCC.out.symm) rfl HZ1.out M2.out.size M3.out.size
        refine Ex.app hex.out hw (by rw [HPRE.out.1]; exact hc.out) (fun p hp hq => n3 p hp p hq rfl) HPRE.out.2 hon.out.size
      clear hm4 c3 d2 f2 HVC M2 M3 HAT hon HST hc HCC hx4 EA EB EC HDA HDC HADM HNK HTK HPRE HALL hex HLA HZ1
      generalize cc + 1 + 3 * m.code.length = c5 at *
      go_wp2
      go_roundw
      case rel => exact ⟨k + 1, c5, by omega, by go_num, rfl, HC4.out, M4.out, E4.out⟩
      case measure => simp [intOf]; omega
    · have HKN : Hid (q + cntMs ms = c) := by
        show _ = _
        have h := hc.out
        rw [List.take_of_length_le (by omega)] at h
        exact h.symm
      have HXN : Hid (Ex (adMs w (.slice a ms.length cap) ms) q w wr) := by
        have h := hex.out
        rw [List.take_of_length_le (by omega)] at h
        exact h
      go_wp2
      go_ret
      exact ⟨retI (by rw [HKN.out]), hon.out, HXN.out⟩
end Pg
end Go.Proofs.Ytdomclicgajihaa

/- The laws' own marking of classes and programs: what it writes, to the number. -/
namespace Go.Proofs.Ytdomclicgajihaa
namespace Pg
open Go.ChangeShapes Go.WideShapes Go.ChangeAt Go.RowKit St

theorem adMl_mrk {B1 B2 C1 C2 : Nat} {u v : World} (hm : Mrk B1 B2 u v) {b : Nat} : ∀ (ms : List Meth) (o : Nat), (∀ j x, ms[j]? = some x → ShMat C1 C2 u b (o + j * 4) x) → adMl v b o ms = adMl u b o ms
  | [], _, _ => rfl
  | m :: ms, o, h => by
    simp only [adMl]
    have h0 := h 0 m rfl
    rw [Nat.zero_mul, Nat.add_zero] at h0
    rw [adM_mrk hm h0, adMl_mrk hm ms (o + 4) (fun j x hj => by
      have := h (j + 1) x (by simpa using hj)
      rw [show o + (j + 1) * 4 = o + 4 + j * 4 by omega] at this
      exact this)]
theorem adMs_mrk {B1 B2 C1 C2 : Nat} {u v : World} (hm : Mrk B1 B2 u v) {x : Value} {ms : List Meth} (h : ShM C1 C2 u x ms) : adMs v x ms = adMs u x ms := by
  obtain ⟨a, cap, rfl, h⟩ := h
  rcases Nat.eq_zero_or_pos ms.length with h0 | h0
  · have e : ms = [] := List.eq_nil_of_length_eq_zero h0
    subst e
    unfold adMs
    split <;> rfl
  · obtain ⟨b, o, rfl, _, _, hx⟩ := h h0
    exact adMl_mrk hm ms o hx
theorem adMs_of {C1 C2 : Nat} {u : World} {x : Value} {ms : List Meth} (h : ShM C1 C2 u x ms) : (adMs u x ms).length = cntMs ms ∧ ∀ p ∈ adMs u x ms, NumW u p := by
  obtain ⟨a, cap, rfl, h⟩ := h
  rcases Nat.eq_zero_or_pos ms.length with h0 | h0
  · have e : ms = [] := List.eq_nil_of_length_eq_zero h0
    subst e
    have e : adMs u (.slice a ([] : List Meth).length cap) [] = [] := by unfold adMs; split <;> rfl
    rw [e]
    exact ⟨rfl, fun p hp => by simp at hp⟩
  · obtain ⟨b, o, rfl, _, _, hx⟩ := h h0
    exact adMl_num hx
theorem adC_mrk {B1 B2 C1 C2 : Nat} {u v : World} (hm : Mrk B1 B2 u v) {b o : Nat} {c : Cls} (h : ShKat C1 C2 u b o c) : adC v b o c = adC u b o c := by
  obtain ⟨va, vc, _, h1, h3, h4, h5⟩ := h
  have h5' := h5
  obtain ⟨a1, c1, rfl⟩ := h4.form
  obtain ⟨a2, c2, rfl⟩ := h5.form
  unfold adC
  rw [(cellD_mrk hm h1 ⟨_, _, _, rfl⟩).1, (cellD_mrk hm h1 ⟨_, _, _, rfl⟩).2, (cellD_mrk hm h3 ⟨_, _, _, rfl⟩).1, (cellD_mrk hm h3 ⟨_, _, _, rfl⟩).2, adMs_mrk hm h5']
theorem adC_of {C1 C2 : Nat} {u : World} {b o : Nat} {c : Cls} (h : ShKat C1 C2 u b o c) : (adC u b o c).length = cntC c ∧ ∀ p ∈ adC u b o c, NumW u p := by
  obtain ⟨va, vc, h0, h1, h2, h4, h5⟩ := h
  have e1 : cellD u ⟨b, o + 1, none⟩ = va := by unfold cellD; rw [h1]; rfl
  have e2 : cellD u ⟨b, o + 2, none⟩ = vc := by unfold cellD; rw [h2]; rfl
  obtain ⟨l4, n4⟩ := shN_ad h4
  obtain ⟨l5, n5⟩ := adMs_of h5
  rw [Nat.mul_one] at l4 n4
  unfold adC cntC
  rw [e1, e2]
  refine ⟨by simp only [List.length_cons, List.length_append, l4, l5]; omega, fun p hp => ?_⟩
  simp only [List.mem_cons, List.mem_append] at hp
  rcases hp with rfl | hp | hp
  · exact h0
  · exact n4 p hp
  · exact n5 p hp
theorem ex_three {p0 : Addr} {LB LD : List Addr} {q q1 q3 : Nat} {u w1 w2 w4 : World} (hn : (p0 :: (LB ++ LD)).Nodup) (hl : ∀ p ∈ p0 :: (LB ++ LD), p.block < u.heap.size)
    (A : Ex [p0] q u w1) (B : Ex LB q1 w1 w2) (D : Ex LD q3 w2 w4) (e1 : q1 = q + 1) (e3 : q3 = q1 + LB.length) (s1 : u.heap.size ≤ w1.heap.size) (s2 : u.heap.size ≤ w2.heap.size) : Ex (p0 :: (LB ++ LD)) q u w4 := by
  rw [List.nodup_cons, List.nodup_append] at hn
  obtain ⟨n0, _, _, n3⟩ := hn
  have hAB := A.app B (by simpa using e1) (fun p hp hq => by simp at hp; subst hp; exact n0 (List.mem_append.2 (.inl hq))) (fun p hp => by simp at hp; subst hp; exact hl _ (by simp)) s1
  have hall := hAB.app D (by simp; omega) (fun p hp hq => by
    rcases List.mem_append.1 hp with h | h
    · simp at h; subst h; exact n0 (List.mem_append.2 (.inr hq))
    · exact n3 _ h _ hq rfl) (fun p hp => hl p (by
      rcases List.mem_append.1 hp with h | h
      · simp at h; subst h; exact List.mem_cons_self
      · exact List.mem_cons_of_mem _ (List.mem_append.2 (.inl h)))) s2
  have e : ([p0] ++ LB ++ LD) = p0 :: (LB ++ LD) := by simp
  rw [e] at hall
  exact hall
theorem adCl_nodup {w : World} {b o : Nat} {ms : List Cls} {k : Nat} (hk : k < ms.length) (h : (adCl w b o ms).Nodup) : (adCl w b o (ms.take k) ++ adC w b (o + k * 3) ms[k]).Nodup := by
  rw [← adCl_take w b o hk]
  have e : ms = ms.take (k + 1) ++ ms.drop (k + 1) := (List.take_append_drop _ _).symm
  rw [e, adCl_app] at h
  exact (List.nodup_append.1 h).1
theorem adCl_num {C1 C2 : Nat} {w : World} {b o : Nat} {ms : List Cls} (h : ∀ j x, ms[j]? = some x → ShKat C1 C2 w b (o + j * 3) x) : (adCl w b o ms).length = cntP ms ∧ ∀ p ∈ adCl w b o ms, NumW w p := by
  induction ms generalizing o with
  | nil => exact ⟨rfl, fun p hp => by simp [adCl] at hp⟩
  | cons m ms ih =>
    obtain ⟨l1, n1⟩ := adC_of (h 0 m rfl)
    have := ih (o := o + 3) (fun j x hj => by
      have := h (j + 1) x (by simpa using hj)
      rw [show o + (j + 1) * 3 = o + 3 + j * 3 by omega] at this
      exact this)
    rw [Nat.zero_mul, Nat.add_zero] at l1 n1
    refine ⟨?_, fun p hp => ?_⟩
    · simp only [adCl, List.length_append, l1, this.1]
      simp [cntP, sumN]
    · rcases List.mem_append.1 hp with hp | hp
      · exact n1 p hp
      · exact this.2 p hp

set_option maxRecDepth 100000 in
set_option maxHeartbeats 2000000 in
theorem markClassesE (B1 B2 : Nat) (a : Option Addr) (cap q : Nat) (ms : Prg) (hsm : SmallP ms) (hq : q + cntP ms ≤ 4000000) (w : World) (hs : ShK B1 B2 w (.slice a ms.length cap) ms) (hnd : (adP w (.slice a ms.length cap) ms).Nodup) :
    Calls Try.prog 28 #[.slice a ms.length cap, .int .i64 q] w fun e w' => e = .returned (.int .i64 ((q + cntP ms : Nat) : Int)) ∧ Mrk B1 B2 w w' ∧ Ex (adP w (.slice a ms.length cap) ms) q w w' := by
  have HS : Hid (ShK B1 B2 w (.slice a ms.length cap) ms) := hs
  have HND : Hid (adP w (.slice a ms.length cap) ms).Nodup := hnd
  have hn := hsm.1
  have HSM : Hid (SmallP ms) := hsm
  clear hs hsm hnd
  go_enter Try.func28, Try.ntmps28
  go_wp2
  go_loopw [1, 5] (fun v i wr => ∃ k c : Nat, k ≤ ms.length ∧ i = .int .i64 k ∧ v = .int .i64 c ∧ Hid (c = q + cntP (ms.take k)) ∧ Hid (Mrk B1 B2 w wr) ∧ Hid (Ex (adP w (.slice a ms.length cap) (ms.take k)) q w wr)) (fun _ i _ => ms.length - (intOf i).toNat)
  case atStart => exact ⟨0, q, Nat.zero_le _, rfl, rfl, by show _ = _; simp [cntP, sumN], Mrk.refl _ _ _, by
    show Ex _ _ _ _
    have e : adP w (.slice a ms.length cap) (ms.take 0) = [] := by rw [List.take_zero]; unfold adP; split <;> rfl
    rw [e]; exact Ex.nil _ _⟩
  case round =>
    obtain ⟨k, c, hk, rfl, rfl, hc, hon, hex⟩ := hrel
    by_cases hlt : k < ms.length
    · have hki : (k : Int) < (ms.length : Int) := by omega
      have HST : Hid (cntP (ms.take (k + 1)) = cntP (ms.take k) + cntC ms[k]) := cntP_step hlt
      have hbd : c + cntC ms[k] ≤ 4000000 := by
        have h1 := HST.out
        have h2 := cntP_take ms (k + 1)
        have h3 := hc.out
        omega
      have hml := (HSM.out.2 _ (List.getElem_mem hlt)).2.1
      have HS0 : Hid (ShK B1 B2 wr (.slice a ms.length cap) ms) := HS.out.mrk hon.out
      obtain ⟨b, o, rfl, h1, h2, va0, vc0, ⟨⟨x0, d0⟩, f0⟩, _⟩ := HS0.out.at hlt
      have HAT : Hid (∀ u, Mrk B1 B2 wr u → ShKat B1 B2 u b (o + k * 3) ms[k]) := fun u hu => by
        obtain ⟨b', o', he, _, _, hm⟩ := (HS0.out.mrk hu).at hlt
        simp at he
        obtain ⟨rfl, rfl⟩ := he
        exact hm
      have HALL : Hid (∀ j x, ms[j]? = some x → ShKat B1 B2 w b (o + j * 3) x) := fun j x hj => by
        obtain ⟨hjl, rfl⟩ := List.getElem?_eq_some_iff.1 hj
        obtain ⟨b', o', he, _, _, hm⟩ := HS.out.at hjl
        simp at he
        obtain ⟨rfl, rfl⟩ := he
        exact hm
      have HNK : Hid (adCl w b o (ms.take k) ++ adC w b (o + k * 3) ms[k]).Nodup := adCl_nodup hlt HND.out
      have HTK : Hid (adCl w b o (ms.take (k + 1)) = adCl w b o (ms.take k) ++ adC w b (o + k * 3) ms[k]) := adCl_take w b o hlt
      have HPRE : Hid ((adCl w b o (ms.take k)).length = cntP (ms.take k) ∧ ∀ p ∈ adCl w b o (ms.take k), p.block < w.heap.size) := by
        have h := adCl_num (ms := ms.take k) (C1 := B1) (C2 := B2) (w := w) (b := b) (o := o) (fun j x hj => by
          rw [List.getElem?_take] at hj
          split at hj
          · exact HALL.out j x hj
          · simp at hj)
        exact ⟨h.1, fun p hp => by obtain ⟨⟨y, hy⟩, _⟩ := h.2 p hp; exact cell_lt hy⟩
      have HADM : Hid (adC wr b (o + k * 3) ms[k] = adC w b (o + k * 3) ms[k] ∧ (adC w b (o + k * 3) ms[k]).length = cntC ms[k] ∧ ∀ p ∈ adC wr b (o + k * 3) ms[k], p.block < wr.heap.size) := by
        have hk0 := HALL.out k _ (List.getElem?_eq_getElem hlt)
        refine ⟨adC_mrk hon.out hk0, (adC_of hk0).1, fun p hp => ?_⟩
        obtain ⟨⟨y, hy⟩, _⟩ := (adC_of (HAT.out wr (Mrk.refl _ _ _))).2 p hp
        exact cell_lt hy
      generalize ms[k] = m at *
      have em : cntC m = 1 + m.fields.length + cntMs m.meths := rfl
      have M1 : Hid (Mrk B1 B2 wr (wr.setCell ⟨b, o + k * 3, none⟩ (.int .i64 c))) := Mrk.set wr (p := ⟨b, o + k * 3, none⟩) h1 h2 d0 c
      have EA : Hid (Ex [⟨b, o + k * 3, none⟩] c wr (wr.setCell ⟨b, o + k * 3, none⟩ (.int .i64 c))) := Ex.one d0 c
      obtain ⟨va, vc, _, c1, _, hva, _⟩ := HAT.out _ M1.out
      obtain ⟨a1, y1, rfl⟩ := hva.form
      have HVA : Hid (ShN 1 B1 B2 (wr.setCell ⟨b, o + k * 3, none⟩ (.int .i64 c)) (.slice a1 m.fields.length y1) m.fields.length) := hva
      have HDA : Hid (cellD wr ⟨b, o + k * 3 + 1, none⟩ = .slice a1 m.fields.length y1) := by
        obtain ⟨va', vc', _, c1', _, hva', _⟩ := HAT.out wr (Mrk.refl _ _ _)
        obtain ⟨a1', y1', rfl⟩ := hva'.form
        exact slice_eq M1.out c1' c1
      have HLA : Hid ((adN (.slice a1 m.fields.length y1) m.fields.length).length = m.fields.length) := by
        have := (shN_ad hva).1
        rw [Nat.mul_one] at this
        exact this
      clear hva HS0
      go_wp2_with fail
      have e1 : ((c : Int) + 1) = ((c + 1 : Nat) : Int) := by omega
      rw [e1]
      clear e1
      refine (markIntsE B1 B2 a1 y1 (c + 1) m.fields.length (by omega) _ HVA.out).mono ?_
      rintro e w2 ⟨rfl, hm2, hx2⟩
      have EB : Hid (Ex (adN (.slice a1 m.fields.length y1) m.fields.length) (c + 1) (wr.setCell ⟨b, o + k * 3, none⟩ (.int .i64 c)) w2) := hx2
      have M2 : Hid (Mrk B1 B2 wr w2) := M1.out.trans hm2
      have HZ1 : Hid (wr.heap.size ≤ (wr.setCell ⟨b, o + k * 3, none⟩ (.int .i64 c)).heap.size) := M1.out.size
      clear hm2 c1 d0 f0 HVA M1 hx2
      generalize wr.setCell ⟨b, o + k * 3, none⟩ (.int .i64 c) = w1 at *
      obtain ⟨va3, vc3, _, _, c3, _, hvc⟩ := HAT.out _ M2.out
      obtain ⟨a3, y3, rfl⟩ := hvc.form
      have HVC : Hid (ShM B1 B2 w2 (.slice a3 m.meths.length y3) m.meths) := hvc
      have HDC : Hid (cellD wr ⟨b, o + k * 3 + 2, none⟩ = .slice a3 m.meths.length y3 ∧ adMs w2 (.slice a3 m.meths.length y3) m.meths = adMs wr (.slice a3 m.meths.length y3) m.meths) := by
        obtain ⟨va', vc', _, _, c3', _, hvc'⟩ := HAT.out wr (Mrk.refl _ _ _)
        obtain ⟨a1', y1', rfl⟩ := hvc'.form
        have e := slice_eq M2.out c3' c3
        refine ⟨e, ?_⟩
        have e' : Value.slice a1' m.meths.length y1' = .slice a3 m.meths.length y3 := by rw [← e]; unfold cellD; rw [c3']; rfl
        rw [e'] at hvc'
        exact adMs_mrk M2.out hvc'
      have HNM : Hid (adMs w2 (.slice a3 m.meths.length y3) m.meths).Nodup := by
        obtain ⟨i1, _⟩ := HADM.out
        obtain ⟨_, n2, _⟩ := List.nodup_append.1 HNK.out
        rw [← i1] at n2
        unfold adC at n2
        rw [HDC.out.1] at n2
        show List.Nodup _
        rw [HDC.out.2]
        exact (List.nodup_append.1 (List.nodup_cons.1 n2).2).2.1
      clear hvc
      generalize hcc : c + 1 + m.fields.length = cc at *
      have HCC : Hid (c + 1 + m.fields.length = cc) := hcc
      have hcc3 : cc + cntMs m.meths ≤ 4000000 := by omega
      clear hcc
      go_wp2_with fail
      refine (markMethodsE B1 B2 a3 y3 cc m.meths hml hcc3 _ HVC.out HNM.out).mono ?_
      rintro e w4 ⟨rfl, hm4, hx4⟩
      have M4 : Hid (Mrk B1 B2 w w4) := hon.out.trans (M2.out.trans hm4)
      have HC4 : Hid (cc + cntMs m.meths = q + cntP (ms.take (k + 1))) := by
        show _ = _
        have h1 := HST.out
        have h2 := hc.out
        have h3 := HCC.out
        omega
      have E4 : Hid (Ex (adP w (.slice (some ⟨b, o, none⟩) ms.length cap) (ms.take (k + 1))) q w w4) := by
        show Ex (adCl w b o (ms.take (k + 1))) q w w4
        rw [HTK.out]
        have eM : adC wr b (o + k * 3) m = ⟨b, o + k * 3, none⟩ :: (adN (.slice a1 m.fields.length y1) m.fields.length ++ adMs wr (.slice a3 m.meths.length y3) m.meths) := by
          unfold adC
          rw [HDA.out, HDC.out.1]
        obtain ⟨i1, i2, i3⟩ := HADM.out
        obtain ⟨n1, n2, n3⟩ := List.nodup_append.1 HNK.out
        rw [HDC.out.2] at hx4
        have hw : Ex (adC w b (o + k * 3) m) c wr w4 := by
          rw [← i1, eM] at n2 ⊢
          rw [eM] at i3
          exact ex_three n2 i3 EA.out EB.out hx4 rfl (by rw [HLA.out]; exact HCC.out.symm) HZ1.out M2.out.size
        refine Ex.app hex.out hw (by rw [HPRE.out.1]; exact hc.out) (fun p hp hq => n3 p hp p hq rfl) HPRE.out.2 hon.out.size
      clear hm4 c3 HVC M2 HAT hon HST hc HCC hx4 EA EB HDA HDC HADM HNK HTK HPRE HALL hex HLA HZ1 HNM
      generalize cc + cntMs m.meths = c5 at *
      go_wp2
      go_roundw
      case rel => exact ⟨k + 1, c5, by omega, by go_num, rfl, HC4.out, M4.out, E4.out⟩
      case measure => simp [intOf]; omega
    · have HKN : Hid (q + cntP ms = c) := by
        show _ = _
        have h := hc.out
        rw [List.take_of_length_le (by omega)] at h
        exact h.symm
      have HXN : Hid (Ex (adP w (.slice a ms.length cap) ms) q w wr) := by
        have h := hex.out
        rw [List.take_of_length_le (by omega)] at h
        exact h
      go_wp2
      go_ret
      exact ⟨retI (by rw [HKN.out]), hon.out, HXN.out⟩
theorem adP_mrk {B1 B2 C1 C2 : Nat} {u v : World} (hm : Mrk B1 B2 u v) {x : Value} {ms : Prg} (h : ShK C1 C2 u x ms) : adP v x ms = adP u x ms := by
  obtain ⟨a, cap, rfl, h⟩ := h
  rcases Nat.eq_zero_or_pos ms.length with h0 | h0
  · have e : ms = [] := List.eq_nil_of_length_eq_zero h0
    subst e
    unfold adP
    split <;> rfl
  · obtain ⟨b, o, rfl, _, _, hx⟩ := h h0
    show adCl v b o ms = adCl u b o ms
    clear h h0
    induction ms generalizing o with
    | nil => rfl
    | cons c cs ih =>
      simp only [adCl]
      have h0 := hx 0 c rfl
      rw [Nat.zero_mul, Nat.add_zero] at h0
      rw [adC_mrk hm h0, ih (o + 3) (fun j x hj => by
        have := hx (j + 1) x (by simpa using hj)
        rw [show o + (j + 1) * 3 = o + 3 + j * 3 by omega] at this
        exact this)]
theorem adP_of {C1 C2 : Nat} {u : World} {x : Value} {ms : Prg} (h : ShK C1 C2 u x ms) : (adP u x ms).length = cntP ms ∧ ∀ p ∈ adP u x ms, NumW u p := by
  obtain ⟨a, cap, rfl, h⟩ := h
  rcases Nat.eq_zero_or_pos ms.length with h0 | h0
  · have e : ms = [] := List.eq_nil_of_length_eq_zero h0
    subst e
    have e : adP u (.slice a ([] : Prg).length cap) [] = [] := by unfold adP; split <;> rfl
    rw [e]
    exact ⟨rfl, fun p hp => by simp at hp⟩
  · obtain ⟨b, o, rfl, _, _, hx⟩ := h h0
    exact adCl_num hx
set_option maxHeartbeats 1000000 in
theorem markProgramE (B1 B2 : Nat) (a : Option Addr) (cap : Nat) (p : Prg) (hsz : szP p ≤ 1048576) (w : World) (hs : ShK B1 B2 w (.slice a p.length cap) p) (hnd : (adP w (.slice a p.length cap) p).Nodup) :
    Calls Try.prog 10 #[.agg #[.slice a p.length cap], .int .i64 1] w fun e w' => e = .returned (.int .i64 ((1 + cntP p : Nat) : Int)) ∧ Mrk B1 B2 w w' ∧ Ex (adP w (.slice a p.length cap) p) 1 w w' := by
  have HS : Hid (ShK B1 B2 w (.slice a p.length cap) p) := hs
  have HSM : Hid (SmallP p) := SmallP.of hsz
  have hc : 1 + cntP p ≤ 4000000 := by have := cntP_le p; omega
  obtain ⟨W, hW⟩ : ∃ W, W = w.alloc (.cells #[.slice a p.length cap] 28) := ⟨_, rfl⟩
  have hwW : Below w.heap.size w W := by rw [hW]; exact (Below.refl _ _).alloc (Nat.le_refl _) _
  have MW : Hid (Mrk B1 B2 w W) := Mrk.of hwW
  have EW : Hid (Ex [] 1 w W) := Ex.of 1 hwW
  have HADP : Hid (adP W (.slice a p.length cap) p = adP w (.slice a p.length cap) p) := adP_mrk MW.out hs
  have HND : Hid (adP W (.slice a p.length cap) p).Nodup := by show List.Nodup _; rw [HADP.out]; exact hnd
  clear hs hnd
  go_enter Try.func10, Try.ntmps10
  go_wp2_with fail
  rw [← hW]
  clear hW
  refine (markClassesE B1 B2 a cap 1 p HSM.out hc _ (HS.out.mrk MW.out) HND.out).mono ?_
  rintro e w1 ⟨rfl, hm1, hx1⟩
  have M1 : Hid (Mrk B1 B2 w w1) := MW.out.trans hm1
  have E1 : Hid (Ex (adP w (.slice a p.length cap) p) 1 w w1) := by
    rw [HADP.out] at hx1
    have := EW.out.app hx1 rfl (fun p hp => by simp at hp) (fun p hp => by simp at hp) MW.out.size
    rw [List.nil_append] at this
    exact this
  clear hm1 hx1
  generalize hc5 : 1 + cntP p = c5 at *
  have HC5 : Hid (1 + cntP p = c5) := hc5
  clear hc5
  go_wp2
  go_ret
  exact ⟨retI (by rw [HC5.out]), M1.out, E1.out⟩
end Pg
end Go.Proofs.Ytdomclicgajihaa
