/- Contracts of the laws' own small functions on steps. -/
import Derived.Test.YtffkkhaiedhaiaaJStep0
import Derived.Handy
import Derived.Test.YtffkkhaiedhaiaaJStep1
import Derived.Deep.RegionWith
import Derived.Lib.QuietBelow
namespace Go.Proofs.Ytffkkhaiedhaiaa
namespace St
open Go.ChangeShapes Go.WideShapes Go.ChangeAt Go.RowKit

theorem cell_lt {w : World} {p : Addr} {v : Value} (h : w.cell? p = some v) : p.block < w.heap.size := by
  refine Nat.lt_of_not_le fun hn => ?_
  have hnone : w.heap[p.block]? = none := Array.getElem?_eq_none hn
  simp [World.cell?, hnone] at h
end St
end Go.Proofs.Ytffkkhaiedhaiaa

/- Rows of steps, and whether all are right. -/
namespace Go.Proofs.Ytffkkhaiedhaiaa
namespace St
open Go.ChangeShapes Go.WideShapes Go.ChangeAt Go.RowKit

theorem below_over {w u w' : World} (h : Below w.heap.size w u) (h2 : Below u.heap.size u w') : Below w.heap.size w w' := h.trans (h2.mono h.size)
/-- The steps l lie in block g from place o on. -/
def Row (w : World) (g o : Nat) (l : List Tx.Ins) : Prop := ∀ j x, l[j]? = some x →
  w.cell? ⟨g, o + j * 3, none⟩ = some (.int .i64 x.1) ∧ w.cell? ⟨g, o + j * 3 + 1, none⟩ = some (.int .i64 x.2.1) ∧ w.cell? ⟨g, o + j * 3 + 2, none⟩ = some (.int .i64 x.2.2)
theorem Row.on {u v : World} {g o : Nat} {l : List Tx.Ins} (h : Row u g o l) (hb : Below u.heap.size u v) : Row v g o l := by
  intro j x hj
  obtain ⟨h0, h1, h2⟩ := h j x hj
  have l0 : g < u.heap.size := cell_lt h0
  exact ⟨(hb.cell l0).trans h0, (hb.cell l0).trans h1, (hb.cell l0).trans h2⟩
theorem Row.below {B : Nat} {u v : World} {g o : Nat} {l : List Tx.Ins} (h : Row u g o l) (hb : Below B u v) (hg : g < B) : Row v g o l := by
  intro j x hj
  obtain ⟨h0, h1, h2⟩ := h j x hj
  exact ⟨(hb.cell hg).trans h0, (hb.cell hg).trans h1, (hb.cell hg).trans h2⟩

theorem all_take {l : List Tx.Ins} {k : Nat} (hk : k < l.length) (h : (l.take k).all Tx.okT = true) (hx : Tx.okT l[k] = true) : (l.take (k + 1)).all Tx.okT = true := by
  rw [List.take_succ_eq_append_getElem hk, List.all_append, h]; simp [hx]

set_option maxHeartbeats 800000 in
theorem each_at (g cap : Nat) (l : List Tx.Ins) (hl : l.length ≤ 1048576) (w : World) (hr : Row w g 0 l) :
    Calls Try.prog 51 #[.slice (some ⟨g, 0, none⟩) l.length cap] w fun e w' => e = .returned (.bool (Tx.okC l)) ∧ Below w.heap.size w w' := by
  have HR : Hid (Row w g 0 l) := hr
  clear hr
  go_enter Try.func51, Try.ntmps51
  go_wp2
  go_loopw [3] (fun i wr => ∃ k : Nat, k ≤ l.length ∧ i = .int .i64 k ∧ Hid ((l.take k).all Tx.okT = true) ∧ Below w.heap.size w wr) (fun i _ => l.length - (intOf i).toNat)
  case atStart => exact ⟨0, Nat.zero_le _, rfl, rfl, Below.refl _ _⟩
  case round =>
    obtain ⟨k, hk, rfl, hall, hb⟩ := hrel
    by_cases hlt : k < l.length
    · obtain ⟨h0, h1, h2⟩ := HR.out.below hb (cell_lt (HR.out k _ (List.getElem?_eq_getElem hlt)).1) k _ (List.getElem?_eq_getElem hlt)
      obtain ⟨x, hx⟩ : ∃ x, x = l[k] := ⟨_, rfl⟩
      rw [← hx] at h0 h1 h2
      have HX : Hid (x = l[k]) := hx
      clear hx
      simp only [Nat.zero_add] at h0 h1 h2
      go_wp2_with fail
      refine (specOk x.1 x.2.1 x.2.2 _).mono ?_
      rintro e w1 ⟨rfl, hb1⟩
      have hw1 : Below w.heap.size w w1 := below_over hb hb1
      clear hb1 h0 h1 h2
      cases hok : Tx.okI x.1 x.2.1 x.2.2
      · have HN : Hid (Tx.okC l = false) := by
          show Tx.okC l = false
          have hm : l[k] ∈ l := List.getElem_mem hlt
          have h2 : l.all Tx.okT = false := by
            cases hh : l.all Tx.okT
            · rfl
            · have := List.all_eq_true.1 hh _ hm
              rw [← HX.out] at this
              simp only [Tx.okT, hok] at this
              simp at this
          simp [Tx.okC, h2]
        go_wp2
        go_ret
        exact ⟨retB HN.out.symm, hw1⟩
      · have HA : Hid ((l.take (k + 1)).all Tx.okT = true) := all_take hlt hall.out (by rw [← HX.out]; exact hok)
        go_wp2
        go_roundw
        case rel => exact ⟨k + 1, by omega, by go_num, HA.out, hw1⟩
        case measure => simp [intOf]; omega
    · have HN : Hid (Tx.okC l = decide ((l.length : Int) ≤ 40)) := by
        show Tx.okC l = decide ((l.length : Int) ≤ 40)
        have e : l.take k = l := List.take_of_length_le (by omega)
        have := hall.out
        rw [e] at this
        unfold Tx.okC
        rw [this, Bool.and_true, Bool.eq_iff_iff]
        simp
        omega
      go_wp2
      go_ret
      exact ⟨retB HN.out.symm, hb⟩

end St
end Go.Proofs.Ytffkkhaiedhaiaa

/- Contracts of the laws' own functions on rows of steps. -/
namespace Go.Proofs.Ytffkkhaiedhaiaa
namespace St
open Go.ChangeShapes Go.WideShapes Go.ChangeAt Go.RowKit

theorem infoI : (Try.prog.info? 76).map (fun i => (i.zero, i.size, i.bytes)) = some (some (.agg #[.int .i64 0, .int .i64 0, .int .i64 0]), 3, 24) := by kernel_rfl

/-- The first n cells of block g are there and may be written. -/
def Room (w : World) (g n : Nat) : Prop := ∀ i, i < n → (∃ v, w.cell? ⟨g, i, none⟩ = some v) ∧ w.frozen? ⟨g, i, none⟩ = false
theorem Room.on {u v : World} {g n : Nat} (h : Room u g n) (hb : Below u.heap.size u v) : Room v g n := by
  intro i hi
  obtain ⟨⟨x, hx⟩, hf⟩ := h i hi
  have l : g < u.heap.size := cell_lt hx
  exact ⟨⟨x, (hb.cell l).trans hx⟩, (hb.frozen l).trans hf⟩
theorem Room.set {w : World} {g n : Nat} (h : Room w g n) (p : Addr) (v : Value) : Room (w.setCell p v) g n := by
  intro i hi
  obtain ⟨⟨x, hx⟩, hf⟩ := h i hi
  refine ⟨?_, by simpa using hf⟩
  by_cases e : p = ⟨g, i, none⟩
  · subst e; exact ⟨v, World.cell?_setCell_same _ _ _ hx⟩
  · exact ⟨x, (World.cell?_setCell_other _ _ _ _ e).trans hx⟩
theorem room_own {w : World} {B e n g cap q : Nat} {xs : List Value} (h : w.ownsRow B e q (.slice (some ⟨g, 0, none⟩) n cap) n xs) (hn : n ≤ cap) : Room w g (n * q) := by
  intro i hi
  obtain ⟨_, h | ⟨g', cap', cur, hv, _, hblk, _, _, hsz, _⟩⟩ := h
  · simp at h
  · injection hv with h1 h2 h3
    simp at h1
    subst h1 h3
    have hc : i < cur.size := by rw [hsz]; exact Nat.lt_of_lt_of_le hi (Nat.mul_le_mul_right _ hn)
    refine ⟨⟨cur[i], ?_⟩, ?_⟩
    · simp [World.cell?, hblk, hc]
    · simp [World.frozen?, hblk]

end St
end Go.Proofs.Ytffkkhaiedhaiaa
