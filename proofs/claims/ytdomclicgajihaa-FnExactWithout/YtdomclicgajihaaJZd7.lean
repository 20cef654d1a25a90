/- The contract of the program's Without. -/
import Derived.Test.YtdomclicgajihaaJZd2
import Derived.Test.YtdomclicgajihaaJPm2
namespace Go.Proofs.Ytdomclicgajihaa
namespace Pg
open Go.ChangeShapes Go.WideShapes Go.ChangeAt Go.RowKit St

/-- What Without answers. -/
def wthP (L : List Int) (p : Prg) : Prg := if okP p = true ∧ okP (woP L p) = true then woP L p else []
def wthG (L : List Int) (i : Nat) (m : Meth) : Bool := !decide ((i : Int) * 20 + m.name ∈ L)
theorem keepP_wth (L : List Int) (p : Prg) : keepP (wthG L) p = woP L p := rfl
set_option maxHeartbeats 1000000 in
theorem indexI_at (g cap : Nat) (l : List Int) (hl : l.length ≤ 1048576) (x : Int) (w : World) (h : IRow w g 0 l) :
    Calls Try.prog 73 #[.slice (some ⟨g, 0, none⟩) l.length cap, .int .i64 x] w fun e w' => ∃ r : Int, e = .returned (.int .i64 r) ∧ Hid (decide (0 ≤ r) = decide (x ∈ l)) ∧ w' = w := by
  have H : Hid (IRow w g 0 l) := h
  clear h
  go_enter Try.func73, Try.ntmps73
  go_wp2
  go_loopw [8] (fun i wr => ∃ k : Nat, k ≤ l.length ∧ i = .int .i64 (k : Int) ∧ Hid (x ∉ l.take k) ∧ wr = w) (fun i _ => l.length - (intOf i).toNat)
  case atStart => exact ⟨0, Nat.zero_le _, rfl, by show _ ∉ _; simp, rfl⟩
  case round =>
    obtain ⟨k, hk, rfl, hno, rfl⟩ := hrel
    by_cases hlt : k < l.length
    · have hki : (k : Int) < (l.length : Int) := by omega
      have c0 : wr.cell? ⟨g, k, none⟩ = some (.int .i64 l[k]) := by have := H.out k _ (List.getElem?_eq_getElem hlt); rwa [Nat.zero_add] at this
      have HE : Hid (x = l[k] → x ∈ l) := fun h => h ▸ List.getElem_mem hlt
      have HN : Hid (x ≠ l[k] → x ∉ l.take (k + 1)) := fun h hm => by
        rw [List.take_succ_eq_append_getElem hlt] at hm
        rcases List.mem_append.1 hm with hm | hm
        · exact hno.out hm
        · exact h (List.mem_singleton.1 hm)
      generalize l[k] = t at *
      by_cases he : x = t
      · subst he
        have HM : Hid (x ∈ l) := HE.out rfl
        clear HE HN hno
        go_wp2
        go_ret
        exact ⟨_, rfl, by show decide (0 ≤ (k : Int)) = _; rw [decide_eq_true HM.out]; simp, rfl⟩
      · have HM : Hid (x ∉ l.take (k + 1)) := HN.out he
        have he' : ¬ t = x := fun h => he h.symm
        clear HE HN hno
        go_wp2
        go_roundw
        case rel => exact ⟨k + 1, by omega, by go_num, HM.out, by simp⟩
        case measure => simp [intOf]; omega
    · have HM : Hid (x ∉ l) := by
        have := hno.out
        rw [List.take_of_length_le (by omega)] at this
        exact this
      clear hno
      go_wp2
      go_ret
      exact ⟨_, rfl, by show decide (0 ≤ (-1 : Int)) = _; rw [decide_eq_false HM.out]; rfl, rfl⟩
theorem containsI_at (g cap : Nat) (l : List Int) (hl : l.length ≤ 1048576) (x : Int) (w : World) (h : IRow w g 0 l) :
    Calls Try.prog 54 #[.slice (some ⟨g, 0, none⟩) l.length cap, .int .i64 x] w fun e w' => e = .returned (.bool (decide (x ∈ l))) ∧ w' = w := by
  have H : Hid (IRow w g 0 l) := h
  clear h
  go_enter Try.func54, Try.ntmps54
  go_wp2_with fail
  refine (indexI_at g cap l hl x _ H.out).mono ?_
  rintro e w1 ⟨r, rfl, hr, rfl⟩
  go_wp2
  go_ret
  exact ⟨by rw [hr.out]; rfl, rfl⟩
set_option maxHeartbeats 1000000 in
theorem othersA (b1 b2 : Nat) (w : World) :
    Calls Try.prog 26 #[.agg #[.func (.func 53) #[] #[.pointer (some ⟨b1, 0, none⟩), .pointer (some ⟨b2, 0, none⟩)]]] w fun e w' => e = .returned (.agg #[.func (.func 48) #[] #[.pointer (some ⟨w.heap.size, 0, none⟩)]]) ∧ w'.cell? ⟨w.heap.size, 0, none⟩ = some (.func (.func 53) #[] #[.pointer (some ⟨b1, 0, none⟩), .pointer (some ⟨b2, 0, none⟩)]) ∧ Below w.heap.size w w' := by
  go_enter Try.func26, Try.ntmps26
  go_wp2
  have hb : Below w.heap.size w ((w.alloc (.cells #[.func (.func 53) #[] #[.pointer (some ⟨b1, 0, none⟩), .pointer (some ⟨b2, 0, none⟩)]] 47)).alloc (.cells #[.func (.func 48) #[] #[.pointer (some ⟨w.heap.size, 0, none⟩)]] 47)) := ((Below.refl _ w).alloc (Nat.le_refl _) _).alloc (by simp) _
  have h0 : Cells ((w.alloc (.cells #[.func (.func 53) #[] #[.pointer (some ⟨b1, 0, none⟩), .pointer (some ⟨b2, 0, none⟩)]] 47)).alloc (.cells #[.func (.func 48) #[] #[.pointer (some ⟨w.heap.size, 0, none⟩)]] 47)) w.heap.size [.func (.func 53) #[] #[.pointer (some ⟨b1, 0, none⟩), .pointer (some ⟨b2, 0, none⟩)]] := (Cells.new w _ rfl _ _).alloc _
  refine bodyPost_ret (v := .agg #[.func (.func 48) #[] #[.pointer (some ⟨w.heap.size, 0, none⟩)]]) (by simp [results, Try.results26, go_sem]) rfl ?_
  exact ⟨rfl, h0.g0.1, hb⟩
set_option maxHeartbeats 1000000 in
theorem othersA1 (b1 b2 bo : Nat) (m : Meth) (va vc : Value) (hva : ∃ a c, va = .slice a m.args.length c) (hvc : ∃ a c, vc = .slice a m.code.length c) (b : Bool) (w : World) (h0 : w.cell? ⟨bo, 0, none⟩ = some (.func (.func 53) #[] #[.pointer (some ⟨b1, 0, none⟩), .pointer (some ⟨b2, 0, none⟩)]))
    (HC : Hid (∀ W, Below w.heap.size w W → Calls Try.prog 53 #[.agg #[.int .i64 m.name, va, .int .i64 m.gives, vc], .pointer (some ⟨b1, 0, none⟩), .pointer (some ⟨b2, 0, none⟩)] W fun e w' => e = .returned (.bool b) ∧ Below W.heap.size W w')) :
    Calls Try.prog 48 #[.agg #[.int .i64 m.name, va, .int .i64 m.gives, vc], .pointer (some ⟨bo, 0, none⟩)] w fun e w' => e = .returned (.bool (!b)) ∧ Below w.heap.size w w' := by
  obtain ⟨a1, c1, rfl⟩ := hva
  obtain ⟨a2, c2, rfl⟩ := hvc
  have hwV : Below w.heap.size w (w.alloc (.cells #[.int .i64 m.name, .slice a1 m.args.length c1, .int .i64 m.gives, .slice a2 m.code.length c2] 52)) := (Below.refl _ _).alloc (Nat.le_refl _) _
  have hf := (hwV.cell (cell_lt h0)).trans h0
  go_enter Try.func48, Try.ntmps48
  go_wp2_with fail
  refine (HC.out _ hwV).mono ?_
  rintro e w4 ⟨rfl, hb4⟩
  have hw4 : Below w.heap.size w w4 := below_over hwV hb4
  clear hb4 hf hwV
  go_wp2
  go_ret
  exact ⟨rfl, hw4⟩
set_option maxHeartbeats 1000000 in
theorem amongMethods (a : Option Addr) (n cap : Nat) (t : Int) (w : World) :
    Calls Try.prog 31 #[.int .i64 t, .slice a n cap] w fun e w' => e = .returned (.agg #[.func (.func 53) #[] #[.pointer (some ⟨w.heap.size + 1, 0, none⟩), .pointer (some ⟨w.heap.size, 0, none⟩)]]) ∧ w'.cell? ⟨w.heap.size + 1, 0, none⟩ = some (.slice a n cap) ∧ w'.cell? ⟨w.heap.size, 0, none⟩ = some (.int .i64 t) ∧ Below w.heap.size w w' := by
  go_enter Try.func31, Try.ntmps31
  go_wp2
  have hb : Below w.heap.size w (((w.alloc (.cells #[.int .i64 t] 2)).alloc (.cells #[.slice a n cap] 34)).alloc (.cells #[.func (.func 53) #[] #[.pointer (some ⟨w.heap.size + 1, 0, none⟩), .pointer (some ⟨w.heap.size, 0, none⟩)]] 47)) := (((Below.refl _ w).alloc (Nat.le_refl _) _).alloc (by simp) _).alloc (by simp; omega) _
  have h0 : Cells (((w.alloc (.cells #[.int .i64 t] 2)).alloc (.cells #[.slice a n cap] 34)).alloc (.cells #[.func (.func 53) #[] #[.pointer (some ⟨w.heap.size + 1, 0, none⟩), .pointer (some ⟨w.heap.size, 0, none⟩)]] 47)) w.heap.size [.int .i64 t] := ((Cells.new w _ rfl _ _).alloc _).alloc _
  have h1 : Cells (((w.alloc (.cells #[.int .i64 t] 2)).alloc (.cells #[.slice a n cap] 34)).alloc (.cells #[.func (.func 53) #[] #[.pointer (some ⟨w.heap.size + 1, 0, none⟩), .pointer (some ⟨w.heap.size, 0, none⟩)]] 47)) (w.heap.size + 1) [.slice a n cap] := (Cells.new (w.alloc _) _ (by simp) _ _).alloc _
  refine bodyPost_ret (v := .agg #[.func (.func 53) #[] #[.pointer (some ⟨w.heap.size + 1, 0, none⟩), .pointer (some ⟨w.heap.size, 0, none⟩)]]) (by simp [results, Try.results31, go_sem]) rfl ?_
  exact ⟨rfl, h1.g0.1, h0.g0.1, hb⟩
set_option maxRecDepth 100000 in
set_option maxHeartbeats 2000000 in
theorem amongMethods1 (gl cl : Nat) (L : List Int) (hL : L.length ≤ 1048576) (t : Nat) (ht : t ≤ 6) (b1 b2 : Nat) (m : Meth) (hm0 : 0 ≤ m.name) (hm1 : m.name ≤ 19) (va vc : Value) (hva : ∃ a c, va = .slice a m.args.length c) (hvc : ∃ a c, vc = .slice a m.code.length c) (w : World) (hi : IRow w gl 0 L)
    (h1 : w.cell? ⟨b1, 0, none⟩ = some (.slice (some ⟨gl, 0, none⟩) L.length cl)) (h2 : w.cell? ⟨b2, 0, none⟩ = some (.int .i64 (t : Int))) :
    Calls Try.prog 53 #[.agg #[.int .i64 m.name, va, .int .i64 m.gives, vc], .pointer (some ⟨b1, 0, none⟩), .pointer (some ⟨b2, 0, none⟩)] w fun e w' => e = .returned (.bool (decide ((t : Int) * 20 + m.name ∈ L))) ∧ Below w.heap.size w w' := by
  obtain ⟨f1, g1, rfl⟩ := hva
  obtain ⟨f2, g2, rfl⟩ := hvc
  have HI : Hid (IRow w gl 0 L) := hi
  obtain ⟨V, hV⟩ : ∃ V, V = w.alloc (.cells #[.int .i64 m.name, .slice f1 m.args.length g1, .int .i64 m.gives, .slice f2 m.code.length g2] 52) := ⟨_, rfl⟩
  have hwV : Below w.heap.size w V := by rw [hV]; exact (Below.refl _ _).alloc (Nat.le_refl _) _
  have M0 : Hid (Cells V w.heap.size [.int .i64 m.name, .slice f1 m.args.length g1, .int .i64 m.gives, .slice f2 m.code.length g2]) := by rw [hV]; exact Cells.new w _ rfl _ _
  have HK : Hid (∀ X, Below V.heap.size V X → Below V.heap.size V X ∧ X.cell? ⟨b1, 0, none⟩ = some (.slice (some ⟨gl, 0, none⟩) L.length cl) ∧ X.cell? ⟨b2, 0, none⟩ = some (.int .i64 (t : Int)) ∧ X.cell? ⟨w.heap.size, 0, none⟩ = some (.int .i64 m.name)) := fun X hX => by
    have hwX : Below w.heap.size w X := below_over hwV hX
    exact ⟨hX, (hwX.cell (cell_lt h1)).trans h1, (hwX.cell (cell_lt h2)).trans h2, (M0.out.on hX).g0.1⟩
  have KD := HK.out _ (Below.refl V.heap.size V).drew
  clear hi h1 h2
  go_enter Try.func53, Try.ntmps53
  go_upto_region 1 with fail
  rw [← hV]
  clear hV
  go_region_held3 (fun X => Below V.heap.size V X ∧ X.cell? ⟨b1, 0, none⟩ = some (.slice (some ⟨gl, 0, none⟩) L.length cl) ∧ X.cell? ⟨b2, 0, none⟩ = some (.int .i64 (t : Int)) ∧ X.cell? ⟨w.heap.size, 0, none⟩ = some (.int .i64 m.name))
    (first | exact KD | assumption)
    (first
      | (go_at_call 55; refine (numberOf (t : Int) m.name (by omega) (by omega) hm0 hm1 _).mono ?_; rintro e wA ⟨rfl, rfl⟩)
      | (go_at_call 54; refine (containsI_at gl cl L hL _ _ (IRow.on HI.out (below_over hwV KD.1))).mono ?_; rintro e wB ⟨rfl, rfl⟩))
  have hb : Below w.heap.size w V.drew := below_over hwV KD.1
  go_wp2
  go_ret
  exact ⟨rfl, hb⟩
set_option maxRecDepth 100000 in
set_option maxHeartbeats 2000000 in
theorem without1 (B : Nat) (p : Prg) (hok : okP p = true) (gl cl : Nat) (L : List Int) (hL : L.length ≤ 1048576) (cb i : Nat) (c : Cls) (hc : p[i]? = some c) (w0 X : World) (hX : Below w0.heap.size w0 X) (hi : IRow w0 gl 0 L) (hgl : gl < w0.heap.size) (h1 : X.cell? ⟨cb, 0, none⟩ = some (.slice (some ⟨gl, 0, none⟩) L.length cl)) :
    Calls Try.prog 30 #[.int .i64 (i : Int), .pointer (some ⟨cb, 0, none⟩)] X fun e w' => ∃ bo, e = .returned (.agg #[.func (.func 48) #[] #[.pointer (some ⟨bo, 0, none⟩)]]) ∧ Below X.heap.size X w' ∧ Hid (∀ m ∈ c.meths, ∀ va vc, MV front B w0 va vc m → ∀ Y, Below w'.heap.size w' Y → Calls Try.prog 48 #[.agg #[.int .i64 m.name, va, .int .i64 m.gives, vc], .pointer (some ⟨bo, 0, none⟩)] Y fun e w'' => e = .returned (.bool (wthG L i m)) ∧ Below Y.heap.size Y w'') := by
  have HOK : Hid (okP p = true) := hok
  have HC : Hid (p[i]? = some c) := hc
  have HI : Hid (IRow w0 gl 0 L) := hi
  clear hok hc hi
  obtain ⟨V, hV⟩ : ∃ V, V = X.alloc (.cells #[Value.nilFunc] 47) := ⟨_, rfl⟩
  have hXV : Below X.heap.size X V := by rw [hV]; exact (Below.refl _ _).alloc (Nat.le_refl _) _
  have RV : Hid (Cells V X.heap.size [Value.nilFunc]) := by rw [hV]; exact Cells.new X _ rfl _ _
  have h1V : (X.alloc (.cells #[Value.nilFunc] 47)).cell? ⟨cb, 0, none⟩ = some (.slice (some ⟨gl, 0, none⟩) L.length cl) := by rw [← hV]; exact (hXV.cell (cell_lt h1)).trans h1
  clear h1
  go_enter Try.func30, Try.ntmps30
  go_wp2_with fail
  rw [← hV]
  clear hV h1V
  refine (amongMethods (some ⟨gl, 0, none⟩) L.length cl (i : Int) V).mono ?_
  rintro e wA ⟨rfl, hA1, hA2, hbA⟩
  go_wp2_with fail
  refine (othersA (V.heap.size + 1) V.heap.size wA).mono ?_
  rintro e wO ⟨rfl, hO, hbO⟩
  obtain ⟨r0, q0⟩ := ((RV.out.on hbA).on hbO).g0
  have e0 := (((RV.out.on hbA).on hbO).s0 (.func (.func 48) #[] #[.pointer (some ⟨wA.heap.size, 0, none⟩)])).g0.1
  have hXO : Below X.heap.size X wO := below_over (below_over hXV hbA) hbO
  have hXR : Below X.heap.size X (wO.setCell ⟨X.heap.size, 0, none⟩ (.func (.func 48) #[] #[.pointer (some ⟨wA.heap.size, 0, none⟩)])) := hXO.setCell (p := ⟨X.heap.size, 0, none⟩) (Nat.le_refl _) _
  have hXs : X.heap.size < V.heap.size := St.cell_lt RV.out.g0.1
  have hVs : V.heap.size ≤ wA.heap.size := hbA.size
  have HR : Hid (∀ Y, Below (wO.setCell ⟨X.heap.size, 0, none⟩ (.func (.func 48) #[] #[.pointer (some ⟨wA.heap.size, 0, none⟩)])).heap.size (wO.setCell ⟨X.heap.size, 0, none⟩ (.func (.func 48) #[] #[.pointer (some ⟨wA.heap.size, 0, none⟩)])) Y → Y.cell? ⟨wA.heap.size, 0, none⟩ = some (.func (.func 53) #[] #[.pointer (some ⟨V.heap.size + 1, 0, none⟩), .pointer (some ⟨V.heap.size, 0, none⟩)]) ∧ Y.cell? ⟨V.heap.size + 1, 0, none⟩ = some (.slice (some ⟨gl, 0, none⟩) L.length cl) ∧ Y.cell? ⟨V.heap.size, 0, none⟩ = some (.int .i64 (i : Int)) ∧ Below w0.heap.size w0 Y) := fun Y hY => by
    have hk : ∀ b v, wO.cell? ⟨b, 0, none⟩ = some v → b ≠ X.heap.size → Y.cell? ⟨b, 0, none⟩ = some v := fun b v h hne => by
      have h2 : (wO.setCell ⟨X.heap.size, 0, none⟩ (.func (.func 48) #[] #[.pointer (some ⟨wA.heap.size, 0, none⟩)])).cell? ⟨b, 0, none⟩ = some v := (World.cell?_setCell_other _ _ _ _ (by intro h; injection h; omega)).trans h
      exact (hY.cell (cell_lt h2)).trans h2
    exact ⟨hk _ _ hO (by omega), hk _ _ ((hbO.cell (cell_lt hA1)).trans hA1) (by omega), hk _ _ ((hbO.cell (cell_lt hA2)).trans hA2) (by omega), hX.trans ((below_over hXR hY).mono hX.size)⟩
  clear hbA hbO hXO hO hA1 hA2
  go_wp2
  refine bodyPost_ret (v := .agg #[.func (.func 48) #[] #[.pointer (some ⟨wA.heap.size, 0, none⟩)]]) (by simp [results, Try.results30, go_sem, e0]) rfl ?_
  refine ⟨wA.heap.size, rfl, hXR, fun m hm va vc hmv Y hY => ?_⟩
  obtain ⟨k1, k2, k3, k4⟩ := HR.out Y hY
  show Calls _ _ _ _ _
  have hnm := name_bd HOK.out HC.out hm
  have hil : i ≤ 6 := by have := (okP_len HOK.out).2; have := (List.getElem?_eq_some_iff.1 HC.out).1; omega
  refine (othersA1 (V.heap.size + 1) V.heap.size wA.heap.size m va vc hmv.1.form (front.form hmv.2) (decide ((i : Int) * 20 + m.name ∈ L)) Y k1 (fun Z hZ => ?_)).mono ?_
  · have hwZ : Below w0.heap.size w0 Z := k4.trans (hZ.mono k4.size)
    exact amongMethods1 gl cl L hL i hil (V.heap.size + 1) V.heap.size m hnm.1 hnm.2 va vc hmv.1.form (front.form hmv.2) Z (IRow.below HI.out hwZ hgl) ((hZ.cell (cell_lt k2)).trans k2) ((hZ.cell (cell_lt k3)).trans k3)
  · rintro e w'' ⟨rfl, hb⟩
    exact ⟨rfl, hb⟩
end Pg
end Go.Proofs.Ytdomclicgajihaa

/- The contract of the program's Without, whole. -/
namespace Go.Proofs.Ytdomclicgajihaa
namespace Pg
open Go.ChangeShapes Go.WideShapes Go.ChangeAt Go.RowKit St
set_option maxRecDepth 100000 in
set_option maxHeartbeats 8000000 in
theorem implWithout (B : Nat) (p : Prg) (a : Option Addr) (cap : Nat) (hsp : SmallP p) (gl cl : Nat) (L : List Int) (hL : L.length ≤ 1048576) (w : World) (hp : SK front B w (.slice a p.length cap) p) (hi : IRow w gl 0 L) (hgl : gl < w.heap.size) :
    Calls Try.prog 14 #[.agg #[.slice a p.length cap], .slice (some ⟨gl, 0, none⟩) L.length cl] w fun e w' => ∃ v, e = .returned (.agg #[v]) ∧ SK front w.heap.size w' v (wthP L p) ∧ (adP w' v (wthP L p)).Nodup ∧ Below w.heap.size w w' := by
  have HSP : Hid (SmallP p) := hsp
  have HP : Hid (SK front B w (.slice a p.length cap) p) := hp
  have HI : Hid (IRow w gl 0 L) := hi
  clear hp hsp hi
  obtain ⟨s, hs⟩ : ∃ s, w.heap.size = s := ⟨_, rfl⟩
  obtain ⟨W, hW⟩ : ∃ W, W = ((w.alloc (.cells #[.slice a p.length cap] 28)).alloc (.cells #[.slice (some ⟨gl, 0, none⟩) L.length cl] 34)).alloc (.cells #[.slice none 0 0] 28) := ⟨_, rfl⟩
  have hwW : Below w.heap.size w W := by rw [hW]; exact (((Below.refl _ _).alloc (Nat.le_refl _) _).alloc (by simp) _).alloc (by simp; omega) _
  have P0 : Hid (Cells W w.heap.size [.slice a p.length cap]) := by show Cells _ _ _; rw [hW]; exact ((Cells.new w _ rfl _ _).alloc _).alloc _
  have M0 : Hid (Cells W (w.heap.size + 1) [.slice (some ⟨gl, 0, none⟩) L.length cl]) := by show Cells _ _ _; rw [hW]; exact (Cells.new (w.alloc _) _ (by simp) _ _).alloc _
  have R0 : Hid (Cells W (w.heap.size + 2) [.slice none 0 0]) := by show Cells _ _ _; rw [hW]; exact Cells.new ((w.alloc _).alloc _) _ (by simp) _ _
  rw [hs] at P0 R0 M0
  rw [hs]
  go_enter Try.func14, Try.ntmps14
  go_wp2_with fail
  try simp only [hs]
  rw [← hW]
  clear hW
  refine (implProgramOk B p a cap HSP.out _ (SK.on HP.out (Keep.of hwW))).mono ?_
  rintro e w1 ⟨rfl, hb1⟩
  have hw1 : Below s w w1 := by rw [← hs]; exact below_over hwW hb1
  have P1 : Hid (Cells w1 s [.slice a p.length cap]) := P0.out.on hb1
  have M1 : Hid (Cells w1 (s + 1) [.slice (some ⟨gl, 0, none⟩) L.length cl]) := M0.out.on hb1
  have R1 : Hid (Cells w1 (s + 2) [.slice none 0 0]) := R0.out.on hb1
  have HI1 : Hid (IRow w1 gl 0 L) := IRow.below HI.out (by rw [hs]; exact hw1) hgl
  have hgl1 : gl < w1.heap.size := Nat.lt_of_lt_of_le hgl hw1.size
  clear hb1 P0 R0 hwW M0
  cases hok : okP p
  · obtain ⟨r0, q0⟩ := R1.out.g0
    have e0 := (R1.out.s0 (.slice none 0 0)).g0.1
    have HS : Hid (wthP L p = []) := by show _ = _; unfold wthP; rw [if_neg (by rw [hok]; simp)]
    have HB : Hid (Below s w (w1.setCell ⟨s + 2, 0, none⟩ (.slice none 0 0))) := hw1.setCell (p := ⟨s + 2, 0, none⟩) (by show s ≤ s + 2; omega) _
    clear hok
    go_wp2
    refine bodyPost_ret (v := .agg #[.slice none 0 0]) (by simp [results, Try.results14, go_sem, e0]) rfl ?_
    first | exact ⟨_, rfl, by rw [HS.out]; exact sk_none _ _, by rw [HS.out]; exact List.Pairwise.nil, HB.out⟩ | exact ⟨rfl, by rw [HS.out]; exact sk_none _ _, by rw [HS.out]; exact List.Pairwise.nil, HB.out⟩
  · have HOK : Hid (okP p = true) := hok
    have hn6 : p.length ≤ 6 := (okP_len hok).2
    clear hok
    have hp1 := P1.out.g0.1
    have HWW : Hid (∀ (i : Nat) (c : Cls), p[i]? = some c → ∀ X, Below w1.heap.size w1 X → Calls Try.prog 30 #[.int .i64 (i : Int), .pointer (some ⟨s + 1, 0, none⟩)] X fun e w' => ∃ bo, e = .returned (.agg #[.func (.func 48) #[] #[.pointer (some ⟨bo, 0, none⟩)]]) ∧ Below X.heap.size X w' ∧ Hid (∀ m ∈ c.meths, ∀ va vc, MV front B w1 va vc m → ∀ Y, Below w'.heap.size w' Y → Calls Try.prog 48 #[.agg #[.int .i64 m.name, va, .int .i64 m.gives, vc], .pointer (some ⟨bo, 0, none⟩)] Y fun e w'' => e = .returned (.bool (wthG L i m)) ∧ Below Y.heap.size Y w'')) := fun i c hc X hX =>
      without1 B p HOK.out gl cl L hL (s + 1) i c hc w1 X hX HI1.out hgl1 (M1.out.on hX).g0.1
    go_wp2_with fail
    refine (withOnlyW B p a cap (s + 1) (wthG L) HSP.out hn6 w1 (SK.on HP.out (Keep.of (by rw [hs]; exact hw1))) HWW.out).mono ?_
    rintro e w2 ⟨v, rfl, hsk, hnd, hb2⟩
    rw [keepP_wth] at hsk hnd
    clear HWW
    obtain ⟨av, dv, rfl⟩ := hsk.form
    have hs2 : s + 2 < w1.heap.size := St.cell_lt R1.out.g0.1
    obtain ⟨V, hV⟩ : ∃ V, V = w2.alloc (.cells #[.slice av (woP L p).length dv] 28) := ⟨_, rfl⟩
    have h2V : Below w2.heap.size w2 V := by rw [hV]; exact (Below.refl _ _).alloc (Nat.le_refl _) _
    have LV : Hid (Cells V w2.heap.size [.slice av (woP L p).length dv]) := by show Cells _ _ _; rw [hV]; exact Cells.new w2 _ rfl _ _
    have HSK : Hid (SK front w1.heap.size w2 (.slice av (woP L p).length dv) (woP L p)) := hsk
    have HND : Hid (adP w2 (.slice av (woP L p).length dv) (woP L p)).Nodup := hnd
    have h1V : Below w1.heap.size w1 V := below_over hb2 h2V
    have lV := LV.out.g0.1
    clear hsk hp1 hnd
    go_wp2_with fail
    try simp only [hs]
    rw [← hV]
    clear hV lV
    refine (implProgramOk w1.heap.size (woP L p) av dv (keepP_small HSP.out (wthG L)) V (SK.on HSK.out (Keep.of h2V))).mono ?_
    rintro e w4 ⟨rfl, hb4⟩
    have h14 : Below w1.heap.size w1 w4 := below_over h1V hb4
    have h24 : Below w2.heap.size w2 w4 := below_over h2V hb4
    obtain ⟨r0, q0⟩ := (R1.out.on h14).g0
    have l4 := (LV.out.on hb4).g0.1
    cases hok2 : okP (woP L p)
    · have e0 := ((R1.out.on h14).s0 (.slice none 0 0)).g0.1
      have HS : Hid (wthP L p = []) := by show _ = _; unfold wthP; rw [if_neg (by rw [hok2]; simp)]
      have HB : Hid (Below s w (w4.setCell ⟨s + 2, 0, none⟩ (.slice none 0 0))) := (hw1.trans (h14.mono (by omega))).setCell (p := ⟨s + 2, 0, none⟩) (by show s ≤ s + 2; omega) _
      clear hok2 hb4
      go_wp2
      refine bodyPost_ret (v := .agg #[.slice none 0 0]) (by simp [results, Try.results14, go_sem, e0]) rfl ?_
      first | exact ⟨_, rfl, by rw [HS.out]; exact sk_none _ _, by rw [HS.out]; exact List.Pairwise.nil, HB.out⟩ | exact ⟨rfl, by rw [HS.out]; exact sk_none _ _, by rw [HS.out]; exact List.Pairwise.nil, HB.out⟩
    · have e0 := ((R1.out.on h14).s0 (.slice av (woP L p).length dv)).g0.1
      have HS : Hid (wthP L p = woP L p) := by show _ = _; unfold wthP; rw [if_pos ⟨HOK.out, hok2⟩]
      have hkeep : Keep w1.heap.size w4 (w4.setCell ⟨s + 2, 0, none⟩ (.slice av (woP L p).length dv)) := Keep.set w4 (p := ⟨s + 2, 0, none⟩) (by show s + 2 < w1.heap.size; omega) _
      have HS4 : SK front w1.heap.size w4 (.slice av (woP L p).length dv) (woP L p) := SK.on HSK.out (Keep.of h24)
      have HSX : Hid (SK front s (w4.setCell ⟨s + 2, 0, none⟩ (.slice av (woP L p).length dv)) (.slice av (woP L p).length dv) (wthP L p)) := by show SK _ _ _ _ _; rw [HS.out]; exact (SK.on HS4 hkeep).weak (by omega)
      have HNX : Hid ((adP (w4.setCell ⟨s + 2, 0, none⟩ (.slice av (woP L p).length dv)) (.slice av (woP L p).length dv) (wthP L p)).Nodup) := by
        show List.Nodup _
        rw [HS.out, adP_keep HS4 hkeep, adP_keep HSK.out (Keep.of h24)]
        exact HND.out
      have HB : Hid (Below s w (w4.setCell ⟨s + 2, 0, none⟩ (.slice av (woP L p).length dv))) := (hw1.trans (h14.mono (by omega))).setCell (p := ⟨s + 2, 0, none⟩) (by show s ≤ s + 2; omega) _
      clear hok2 hb4 HS4 hkeep
      go_wp2
      refine bodyPost_ret (v := .agg #[.slice av (woP L p).length dv]) (by simp [results, Try.results14, go_sem, e0]) rfl ?_
      first | exact ⟨_, rfl, HSX.out, HNX.out, HB.out⟩ | exact ⟨rfl, HSX.out, HNX.out, HB.out⟩
end Pg
end Go.Proofs.Ytdomclicgajihaa

/- The contract of the specification's Without. -/
namespace Go.Proofs.Ytdomclicgajihaa
namespace Pg
open Go.ChangeShapes Go.WideShapes Go.ChangeAt Go.RowKit St
set_option maxRecDepth 100000 in
set_option maxHeartbeats 8000000 in
theorem specWithoutP (B : Nat) (p : Prg) (a : Option Addr) (cap : Nat) (hsp : SmallP p) (gl cl : Nat) (L : List Int) (hL : L.length ≤ 1048576) (w : World) (hp : SK front B w (.slice a p.length cap) p) (hi : IRow w gl 0 L) (hgl : gl < w.heap.size) :
    Calls Try.prog 12 #[.agg #[.slice a p.length cap], .slice (some ⟨gl, 0, none⟩) L.length cl] w fun e w' => ∃ v, e = .returned (.agg #[v]) ∧ SK front w.heap.size w' v (wthP L p) ∧ Below w.heap.size w w' := by
  have HSP : Hid (SmallP p) := hsp
  have HP : Hid (SK front B w (.slice a p.length cap) p) := hp
  have HI : Hid (IRow w gl 0 L) := hi
  clear hp hsp hi
  obtain ⟨s, hs⟩ : ∃ s, w.heap.size = s := ⟨_, rfl⟩
  obtain ⟨W, hW⟩ : ∃ W, W = (w.alloc (.cells #[.slice a p.length cap] 28)).alloc (.cells #[.slice none 0 0] 28) := ⟨_, rfl⟩
  have hwW : Below w.heap.size w W := by rw [hW]; exact ((Below.refl _ _).alloc (Nat.le_refl _) _).alloc (by simp) _
  have P0 : Hid (Cells W w.heap.size [.slice a p.length cap]) := by show Cells _ _ _; rw [hW]; exact (Cells.new w _ rfl _ _).alloc _
  have R0 : Hid (Cells W (w.heap.size + 1) [.slice none 0 0]) := by show Cells _ _ _; rw [hW]; exact Cells.new (w.alloc _) _ (by simp) _ _
  rw [hs] at P0 R0
  rw [hs]
  go_enter Try.func12, Try.ntmps12
  go_wp2_with fail
  try simp only [hs]
  rw [← hW]
  clear hW
  refine (specProgramOk B p a cap HSP.out _ (SK.on HP.out (Keep.of hwW))).mono ?_
  rintro e w1 ⟨rfl, hb1⟩
  have hw1 : Below s w w1 := by rw [← hs]; exact below_over hwW hb1
  have P1 : Hid (Cells w1 s [.slice a p.length cap]) := P0.out.on hb1
  have R1 : Hid (Cells w1 (s + 1) [.slice none 0 0]) := R0.out.on hb1
  have HI1 : Hid (IRow w1 gl 0 L) := IRow.below HI.out (by rw [hs]; exact hw1) hgl
  have hgl1 : gl < w1.heap.size := Nat.lt_of_lt_of_le hgl hw1.size
  clear hb1 P0 R0 hwW
  cases hok : okP p
  · obtain ⟨r0, q0⟩ := R1.out.g0
    have e0 := (R1.out.s0 (.slice none 0 0)).g0.1
    have HS : Hid (wthP L p = []) := by show _ = _; unfold wthP; rw [if_neg (by rw [hok]; simp)]
    have HB : Hid (Below s w (w1.setCell ⟨s + 1, 0, none⟩ (.slice none 0 0))) := hw1.setCell (p := ⟨s + 1, 0, none⟩) (by show s ≤ s + 1; omega) _
    clear hok
    go_wp2
    refine bodyPost_ret (v := .agg #[.slice none 0 0]) (by simp [results, Try.results12, go_sem, e0]) rfl ?_
    first | exact ⟨_, rfl, by rw [HS.out]; exact sk_none _ _, HB.out⟩ | exact ⟨rfl, by rw [HS.out]; exact sk_none _ _, HB.out⟩
  · have HOK : Hid (okP p = true) := hok
    have hn6 : p.length ≤ 6 := (okP_len hok).2
    clear hok
    have hp1 := P1.out.g0.1
    have HNM : Hid (∀ c ∈ p, ∀ m ∈ c.meths, 0 ≤ m.name ∧ m.name ≤ 19) := fun c hc m hm => by
      obtain ⟨i, hi, rfl⟩ := List.getElem_of_mem hc
      exact name_bd HOK.out (List.getElem?_eq_getElem hi) hm
    go_wp2_with fail
    refine (specWithout copyLaw B a cap p HSP.out hn6 (okP_len HOK.out).1 HNM.out L hL gl cl w1 (SK.on HP.out (Keep.of (by rw [hs]; exact hw1))) HI1.out).mono ?_
    rintro e w2 ⟨v, rfl, hsk, hb2⟩
    obtain ⟨av, dv, rfl⟩ := hsk.form
    have hs2 : s + 1 < w1.heap.size := St.cell_lt R1.out.g0.1
    obtain ⟨V, hV⟩ : ∃ V, V = w2.alloc (.cells #[.slice av (woP L p).length dv] 28) := ⟨_, rfl⟩
    have h2V : Below w2.heap.size w2 V := by rw [hV]; exact (Below.refl _ _).alloc (Nat.le_refl _) _
    have LV : Hid (Cells V w2.heap.size [.slice av (woP L p).length dv]) := by show Cells _ _ _; rw [hV]; exact Cells.new w2 _ rfl _ _
    have HSK : Hid (SK front w1.heap.size w2 (.slice av (woP L p).length dv) (woP L p)) := hsk
    have h1V : Below w1.heap.size w1 V := below_over hb2 h2V
    have lV := LV.out.g0.1
    clear hsk hp1
    go_wp2_with fail
    try simp only [hs]
    rw [← hV]
    clear hV lV
    refine (specProgramOk w1.heap.size (woP L p) av dv (keepP_small HSP.out (wthG L)) V (SK.on HSK.out (Keep.of h2V))).mono ?_
    rintro e w4 ⟨rfl, hb4⟩
    have h14 : Below w1.heap.size w1 w4 := below_over h1V hb4
    have h24 : Below w2.heap.size w2 w4 := below_over h2V hb4
    obtain ⟨r0, q0⟩ := (R1.out.on h14).g0
    have l4 := (LV.out.on hb4).g0.1
    cases hok2 : okP (woP L p)
    · have e0 := ((R1.out.on h14).s0 (.slice none 0 0)).g0.1
      have HS : Hid (wthP L p = []) := by show _ = _; unfold wthP; rw [if_neg (by rw [hok2]; simp)]
      have HB : Hid (Below s w (w4.setCell ⟨s + 1, 0, none⟩ (.slice none 0 0))) := (hw1.trans (h14.mono (by omega))).setCell (p := ⟨s + 1, 0, none⟩) (by show s ≤ s + 1; omega) _
      clear hok2 hb4
      go_wp2
      refine bodyPost_ret (v := .agg #[.slice none 0 0]) (by simp [results, Try.results12, go_sem, e0]) rfl ?_
      first | exact ⟨_, rfl, by rw [HS.out]; exact sk_none _ _, HB.out⟩ | exact ⟨rfl, by rw [HS.out]; exact sk_none _ _, HB.out⟩
    · have e0 := ((R1.out.on h14).s0 (.slice av (woP L p).length dv)).g0.1
      have HS : Hid (wthP L p = woP L p) := by show _ = _; unfold wthP; rw [if_pos ⟨HOK.out, hok2⟩]
      have hkeep : Keep w1.heap.size w4 (w4.setCell ⟨s + 1, 0, none⟩ (.slice av (woP L p).length dv)) := Keep.set w4 (p := ⟨s + 1, 0, none⟩) (by show s + 1 < w1.heap.size; omega) _
      have HS4 : SK front w1.heap.size w4 (.slice av (woP L p).length dv) (woP L p) := SK.on HSK.out (Keep.of h24)
      have HSX : Hid (SK front s (w4.setCell ⟨s + 1, 0, none⟩ (.slice av (woP L p).length dv)) (.slice av (woP L p).length dv) (wthP L p)) := by show SK _ _ _ _ _; rw [HS.out]; exact (SK.on HS4 hkeep).weak (by omega)
      have HB : Hid (Below s w (w4.setCell ⟨s + 1, 0, none⟩ (.slice av (woP L p).length dv))) := (hw1.trans (h14.mono (by omega))).setCell (p := ⟨s + 1, 0, none⟩) (by show s ≤ s + 1; omega) _
      clear hok2 hb4 HS4 hkeep
      go_wp2
      refine bodyPost_ret (v := .agg #[.slice av (woP L p).length dv]) (by simp [results, Try.results12, go_sem, e0]) rfl ?_
      first | exact ⟨_, rfl, HSX.out, HB.out⟩ | exact ⟨rfl, HSX.out, HB.out⟩
end Pg
end Go.Proofs.Ytdomclicgajihaa
