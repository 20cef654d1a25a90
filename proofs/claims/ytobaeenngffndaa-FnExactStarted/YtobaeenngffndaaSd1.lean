/- How a machine begins: the program's fresh object, and Started. -/
import Derived.Test.YtobaeenngffndaaSd0
import Derived.Test.YtobaeenngffndaaPi3
namespace Go.Proofs.Ytobaeenngffndaa
namespace Pg
open Go.ChangeShapes Go.WideShapes Go.ChangeAt Go.RowKit St

def valF (t : Int) : Vl := if t = -1 then (1, 0) else (3, 0)
def startM (p : Prg) : Mc := ⟨[⟨0, (fieldsR p 6 0).map valF⟩], [⟨0, 0, 0, [], frmV [(2, 0)]⟩], [], 0, 0⟩
theorem vals_twice {w : World} {g k : Nat} {ms : List Vl} (hk : k < ms.length) (hroom : Room w g (ms.length * 2)) (h : ∀ j x, (ms.take k)[j]? = some x → VAt w g (0 + j * 2) x) (a b : Value) :
    ∀ j x, (ms.take (k + 1))[j]? = some x → VAt ((((w.setCell ⟨g, k * 2, none⟩ a).setCell ⟨g, k * 2 + 1, none⟩ b).setCell ⟨g, k * 2, none⟩ (.int .i64 ms[k].1)).setCell ⟨g, k * 2 + 1, none⟩ (.int .i64 ms[k].2)) g (0 + j * 2) x := by
  refine VAt.next hk ((hroom.set _ _).set _ _) fun j x hj => ?_
  have hjk : j < k := by have := (List.getElem?_eq_some_iff.1 hj).1; simp at this; omega
  exact ((h j x hj).far (by omega) _).far (by omega) _
set_option maxRecDepth 100000 in
set_option maxHeartbeats 2000000 in
theorem freshObject_at (B : Nat) (p : Prg) (b o cap : Nat) (u : Nat) (hok : okP p = true) (hu : u < p.length) (w : World) (hp : SK front B w (.slice (some ⟨b, o, none⟩) p.length cap) p) :
    Calls Try.prog 43 #[.agg #[.slice (some ⟨b, o, none⟩) p.length cap], .int .i64 u] w fun e w' => ∃ x y, e = .returned (.agg #[.int .i64 u, .slice x ((fieldsR p 6 u).map valF).length y]) ∧ VZ (fun k => w.heap.size < k ∧ k < w'.heap.size) w' (.slice x ((fieldsR p 6 u).map valF).length y) ((fieldsR p 6 u).map valF) ∧ Below w.heap.size w w' := by
  obtain ⟨i0, hi, hz0, hz1, hz2⟩ := info_parts infoValue
  have hl6 := (okP_len hok).2
  have hlen : (fieldsR p 6 (u : Int)).length ≤ 24 := fieldsR_len (okP_sup hok) hl6 (Nat.le_refl _) (okP_four hok) 6 _ (by omega) (by omega)
  have HC : Hid (∀ x, Below w.heap.size w x → Calls Try.prog 74 #[.agg #[.slice (some ⟨b, o, none⟩) p.length cap], .int .i64 u] x fun e w' => ∃ v, e = .returned v ∧ Grow x.heap.size w' v (fieldsR p 6 u) ∧ Below x.heap.size x w') := fun x hx => fieldsDownTo B p b o cap hok w hp 6 u x (by omega) (by omega) (by omega) hx
  generalize fieldsR p 6 (u : Int) = tys at *
  obtain ⟨ms, hms⟩ : ∃ ms : List Vl, ms = tys.map valF := ⟨_, rfl⟩
  have hml : ms.length = tys.length := by rw [hms, List.length_map]
  rw [← hms]
  have HMS : Hid (ms = tys.map valF) := hms
  clear hms hp hok
  obtain ⟨W, hW⟩ : ∃ W, W = (w.alloc (.cells #[.slice (some ⟨b, o, none⟩) p.length cap] 44)).alloc (.cells #[.int .i64 0, .slice none 0 0] 57) := ⟨_, rfl⟩
  have hwW : Below w.heap.size w W := by rw [hW]; exact ((Below.refl _ _).alloc (Nat.le_refl _) _).alloc (by simp) _
  have R0 : Hid (Cells W (w.heap.size + 1) [.int .i64 0, .slice none 0 0]) := by rw [hW]; exact Cells.new (w.alloc _) _ (by simp) _ _
  have HZ : Hid (W.heap.size = w.heap.size + 1 + 1) := by rw [hW]; show _ = _; simp
  go_enter Try.func43, Try.ntmps43
  go_wp2_with fail
  rw [← hW]
  clear hW
  refine (HC.out _ hwW).mono ?_
  rintro e w1 ⟨v1, rfl, hg1, hb1⟩
  obtain ⟨g1, c1, rfl, hgB, hgl, hrow, _⟩ := hg1.gint
  have hw1 : Below w.heap.size w w1 := below_over hwW hb1
  have HR1 : Hid (IRow w1 g1 0 tys) := hrow
  have hWs : W.heap.size ≤ w1.heap.size := hb1.size
  clear hg1 hrow hgB HC
  go_wp2_with (at_make; refine wpList_make_full _ rfl _ _ 55 rfl w1.heap.size 79 i0 (.agg #[.int .i64 0, .int .i64 0]) 2 Try.underlying55 hi hz0 hz1 .i64 .i64 _ _ tys.length rfl rfl rfl rfl (by rw [hz2]; omega) (by unfold maxLen; omega) (Nat.le_refl _) ?_; intro w0 hown0 hgrow0)
  have hroom : Room w0 w1.heap.size (ms.length * 2) := by rw [hml]; exact room_own hown0 (Nat.le_refl _)
  have hsz0 : w1.heap.size < w0.heap.size := row_made_lt hown0
  have hb0 : Below w1.heap.size w1 w0 := (Below.refl _ _).grown hgrow0 (Nat.le_refl _) (fun _ h => by simp at h)
  clear hown0 hgrow0
  go_loopw [17] (fun i wr => ∃ k : Nat, k ≤ tys.length ∧ i = .int .i64 k ∧ Hid (Room wr w1.heap.size (ms.length * 2)) ∧ Hid (∀ j x, (ms.take k)[j]? = some x → VAt wr w1.heap.size (0 + j * 2) x) ∧ w1.heap.size < wr.heap.size ∧ Below w1.heap.size w1 wr) (fun i _ => tys.length - (intOf i).toNat)
  case atStart => exact ⟨0, Nat.zero_le _, rfl, hroom, fun j x h => by simp at h, hsz0, hb0⟩
  case round =>
    obtain ⟨k, hk, rfl, hrm, hrw, hsz, hb⟩ := hrel
    by_cases hlt : k < tys.length
    · have h0 := (hb.cell (p := ⟨g1, 0 + k, none⟩) hgl).trans (HR1.out k _ (List.getElem?_eq_getElem hlt))
      rw [Nat.zero_add] at h0
      have hki : (k : Int) < (tys.length : Int) := by omega
      have hkm : k < ms.length := by omega
      have HMK : Hid (ms[k] = valF tys[k]) := by
        show _ = _
        have e1 : ms[k]? = some (valF tys[k]) := by rw [HMS.out, List.getElem?_map, List.getElem?_eq_getElem hlt]; rfl
        rw [List.getElem?_eq_getElem hkm] at e1
        exact Option.some.inj e1
      obtain ⟨⟨x0, d0⟩, f0⟩ := hrm.out (k * 2) (by omega)
      obtain ⟨⟨x1, d1⟩, f1⟩ := hrm.out (k * 2 + 1) (by omega)
      by_cases ht : tys[k] = -1
      · have HMV : Hid (ms[k] = (1, 0)) := by show _ = _; rw [HMK.out, ht]; rfl
        have HP : Hid (∀ j x, (ms.take k)[j]? = some x → VAt ((wr.setCell ⟨w1.heap.size, k * 2, none⟩ (.int .i64 3)).setCell ⟨w1.heap.size, k * 2 + 1, none⟩ (.int .i64 0)) w1.heap.size (0 + j * 2) x) := fun j x hj => by
          have hjk : j < k := by have := (List.getElem?_eq_some_iff.1 hj).1; simp at this; omega
          exact ((hrw.out j x hj).far (by omega) _).far (by omega) _
        have HRU : Hid (Room ((wr.setCell ⟨w1.heap.size, k * 2, none⟩ (.int .i64 3)).setCell ⟨w1.heap.size, k * 2 + 1, none⟩ (.int .i64 0)) w1.heap.size (ms.length * 2)) := (hrm.out.set _ _).set _ _
        have HBU : Hid (Below w1.heap.size w1 ((wr.setCell ⟨w1.heap.size, k * 2, none⟩ (.int .i64 3)).setCell ⟨w1.heap.size, k * 2 + 1, none⟩ (.int .i64 0))) := (hb.setCell (p := ⟨w1.heap.size, k * 2, none⟩) (Nat.le_refl _) _).setCell (p := ⟨w1.heap.size, k * 2 + 1, none⟩) (Nat.le_refl _) _
        have hszU : w1.heap.size < ((wr.setCell ⟨w1.heap.size, k * 2, none⟩ (.int .i64 3)).setCell ⟨w1.heap.size, k * 2 + 1, none⟩ (.int .i64 0)).heap.size := by simpa using hsz
        rw [ht] at h0
        have hzb : ((-1 : Int) == -1) = true := rfl
        clear hrm hrw hb ht HMK
        go_wp2_with fail
        refine (intValue_at 0 _).mono ?_
        rintro e w2 ⟨rfl, hb2⟩
        generalize hgen : ((wr.setCell ⟨w1.heap.size, k * 2, none⟩ (.int .i64 3)).setCell ⟨w1.heap.size, k * 2 + 1, none⟩ (.int .i64 0)) = U1 at *
        have HR2 : Hid (Room w2 w1.heap.size (ms.length * 2)) := HRU.out.on hb2
        have HP2 : Hid (∀ j x, (ms.take k)[j]? = some x → VAt w2 w1.heap.size (0 + j * 2) x) := fun j x hj => by
          obtain ⟨q0, q1⟩ := HP.out j x hj
          exact ⟨(hb2.cell hszU).trans q0, (hb2.cell hszU).trans q1⟩
        have hsz2 : w1.heap.size < w2.heap.size := Nat.lt_of_lt_of_le hszU hb2.size
        have hbw2 : Below w1.heap.size w1 w2 := below_over HBU.out hb2
        obtain ⟨⟨y0, dd0⟩, ff0⟩ := HR2.out (k * 2) (by omega)
        obtain ⟨⟨y1, dd1⟩, ff1⟩ := HR2.out (k * 2 + 1) (by omega)
        have HNX : Hid (∀ j x, (ms.take (k + 1))[j]? = some x → VAt ((w2.setCell ⟨w1.heap.size, k * 2, none⟩ (.int .i64 1)).setCell ⟨w1.heap.size, k * 2 + 1, none⟩ (.int .i64 0)) w1.heap.size (0 + j * 2) x) := by
          have h := VAt.next hkm HR2.out HP2.out
          rw [HMV.out] at h
          exact h
        clear hb2 hgen HP HRU HBU hszU d0 d1 f0 f1 h0 HP2
        go_wp2
        go_roundw
        case rel => exact ⟨k + 1, by omega, by go_num, (HR2.out.set _ _).set _ _, HNX.out, by simpa using hsz2, (hbw2.setCell (Nat.le_refl _) _).setCell (Nat.le_refl _) _⟩
        case measure => simp [intOf]; omega
      · have HMV : Hid (ms[k] = (3, 0)) := by show _ = _; rw [HMK.out]; simp [valF, ht]
        have hzb : (tys[k] == -1) = false := by simp [ht]
        have HNX : Hid (∀ j x, (ms.take (k + 1))[j]? = some x → VAt ((wr.setCell ⟨w1.heap.size, k * 2, none⟩ (.int .i64 3)).setCell ⟨w1.heap.size, k * 2 + 1, none⟩ (.int .i64 0)) w1.heap.size (0 + j * 2) x) := by
          have h := VAt.next hkm hrm.out hrw.out
          rw [HMV.out] at h
          exact h
        generalize tys[k] = tk at *
        clear ht HMK HMV hrw
        go_wp2
        go_roundw
        case rel => exact ⟨k + 1, by omega, by go_num, (hrm.out.set _ _).set _ _, HNX.out, by simpa using hsz, (hb.setCell (Nat.le_refl _) _).setCell (Nat.le_refl _) _⟩
        case measure => simp [intOf]; omega
    · have e : ms.take k = ms := List.take_of_length_le (by omega)
      have HE := hrw.out
      rw [e] at HE
      have HV : Hid (VZ (fun q => w.heap.size < q ∧ q < wr.heap.size) wr (.slice (some ⟨w1.heap.size, 0, none⟩) ms.length tys.length) ms) := .inl ⟨w1.heap.size, tys.length, rfl, ⟨by have := HZ.out; omega, hsz⟩, hsz, fun j x hj => by have := HE j x hj; rw [Nat.zero_add] at this; exact this, hrm.out⟩
      have RA := (R0.out.on hb1).low hb (by have := HZ.out; omega)
      obtain ⟨r0, q0⟩ := RA.g0
      obtain ⟨r1, q1⟩ := RA.g1
      have R5 := (RA.s0 (.int .i64 (u : Int))).s1 (.slice (some ⟨w1.heap.size, 0, none⟩) tys.length tys.length)
      obtain ⟨e0, _⟩ := R5.g0
      obtain ⟨e1, _⟩ := R5.g1
      have HT : Hid (Tch (fun q => q = w.heap.size + 1) wr ((wr.setCell ⟨w.heap.size + 1, 0, none⟩ (.int .i64 (u : Int))).setCell ⟨w.heap.size + 1, 1, none⟩ (.slice (some ⟨w1.heap.size, 0, none⟩) tys.length tys.length))) := (Tch.set (S := fun q => q = w.heap.size + 1) wr (p := ⟨w.heap.size + 1, 0, none⟩) rfl _).trans (Tch.set (S := fun q => q = w.heap.size + 1) _ (p := ⟨w.heap.size + 1, 1, none⟩) rfl _)
      have HBW : Hid (Below w.heap.size w wr) := below_over hw1 hb
      have HGW : Hid (w.heap.size + 1 < w1.heap.size) := by show _ < _; have := HZ.out; omega
      rw [hml]
      clear R5 RA HE e hb hrm hrw
      go_wp2
      refine bodyPost_ret (v := .agg #[.int .i64 (u : Int), .slice (some ⟨w1.heap.size, 0, none⟩) tys.length tys.length]) (by simp [results, Try.results43, go_sem, e0, e1]) rfl ?_
      refine ⟨some ⟨w1.heap.size, 0, none⟩, tys.length, by rw [hml], ?_, HBW.out.trans (HT.out.below (by have := HBW.out.size; omega) (fun k hk => by omega))⟩
      rcases HV.out with ⟨g, c, h1, h2, h3, h4, h5⟩ | ⟨h1, _⟩
      · injection h1 with h1 _ h6
        injection h1 with h1
        injection h1 with h1
        subst h1
        have hx := HT.out.far w1.heap.size h3 (by have := HGW.out; omega)
        exact .inl ⟨w1.heap.size, _, rfl, ⟨h2.1, by simpa using h2.2⟩, by simpa using h3, fun j x hj => ⟨(World.cell?_of_block (w := wr) hx).trans (h4 j x hj).1, (World.cell?_of_block (w := wr) hx).trans (h4 j x hj).2⟩, room_moved hx h5⟩
      · cases h1
end Pg
end Go.Proofs.Ytobaeenngffndaa
