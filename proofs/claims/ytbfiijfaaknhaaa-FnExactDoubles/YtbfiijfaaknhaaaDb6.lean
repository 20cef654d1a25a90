/- Contracts of both sides' Doubles. -/
import Derived.Test.YtbfiijfaaknhaaaDb5
import Derived.Test.YtbfiijfaaknhaaaDb3
namespace Go.Proofs.Ytbfiijfaaknhaaa
namespace Pg
open Go.ChangeShapes Go.WideShapes Go.ChangeAt Go.RowKit St

/-- A row of methods of which the cells alone are told. -/
def QR (g : Nat) (fl : List Meth) (u : World) : Prop := ∀ j m, fl[j]? = some m → ∃ a1 n1 c1 a2 n2 c2, u.cell? ⟨g, j * 4, none⟩ = some (.int .i64 m.name) ∧ u.cell? ⟨g, j * 4 + 1, none⟩ = some (.slice a1 n1 c1) ∧ u.cell? ⟨g, j * 4 + 2, none⟩ = some (.int .i64 m.gives) ∧ u.cell? ⟨g, j * 4 + 3, none⟩ = some (.slice a2 n2 c2)
theorem QR.blk {g : Nat} {fl : List Meth} {u w : World} (h : QR g fl u) (hb : w.heap[g]? = u.heap[g]?) : QR g fl w := fun j m hm => by
  obtain ⟨a1, n1, c1, a2, n2, c2, h0, h1, h2, h3⟩ := h j m hm
  exact ⟨a1, n1, c1, a2, n2, c2, (World.cell?_of_block (w := u) hb).trans h0, (World.cell?_of_block (w := u) hb).trans h1, (World.cell?_of_block (w := u) hb).trans h2, (World.cell?_of_block (w := u) hb).trans h3⟩
theorem QR.of {B g c : Nat} {fl : List Meth} {u : World} (h : SM front B u (.slice (some ⟨g, 0, none⟩) fl.length c) fl) : QR g fl u := fun j m hm => by
  obtain ⟨hj, rfl⟩ := List.getElem?_eq_some_iff.1 hm
  obtain ⟨b, o, he, _, va, vc, h0, h1, h2, h3, hv⟩ := h.get hj
  injection he with he
  injection he with e1 e2
  subst e1 e2
  obtain ⟨x1, y1, rfl⟩ := hv.1.form
  obtain ⟨x2, y2, rfl⟩ := front.form hv.2
  simp only [Nat.zero_add] at h0 h1 h2 h3
  exact ⟨_, _, _, _, _, _, h0, h1, h2, h3⟩
theorem dbl_take {p : Prg} {i : Nat} {c : Cls} (hc : p[i]? = some c) : dblT p (i + 1) = dblT p i ++ (c.meths.filter (dblB p c)).map fun m => (i : Int) * 20 + m.name := dblT_succ hc
theorem map_take {α β : Type} (f : α → β) (l : List α) {k : Nat} (hk : k < l.length) : (l.take (k + 1)).map f = (l.take k).map f ++ [f l[k]] := by
  rw [List.take_succ_eq_append_getElem hk, List.map_append]
  rfl
/-- In a right program the names of a class's methods rise, so each is found by its name. -/
theorem names_lt {p : Prg} (hok : okP p = true) {i : Nat} {c : Cls} (hc : p[i]? = some c) {k : Nat} {x y : Meth} (hx : c.meths[k]? = some x) (hy : c.meths[k + 1]? = some y) : x.name < y.name := by
  obtain ⟨hi, _⟩ := List.getElem?_eq_some_iff.1 hc
  have h1 := okP_at hok hi
  rw [okAt_of hc] at h1
  have h2 := okC_meth h1 (List.getElem?_eq_some_iff.1 hy).1
  unfold okK at h2
  rw [hy] at h2
  simp only [Bool.and_eq_true] at h2
  have h3 := h2.1.2
  rw [hx] at h3
  simpa using h3
theorem names_far {p : Prg} (hok : okP p = true) {i : Nat} {c : Cls} (hc : p[i]? = some c) : ∀ (d k : Nat) (x y : Meth), c.meths[k]? = some x → c.meths[k + 1 + d]? = some y → x.name < y.name
  | 0, k, x, y, hx, hy => names_lt hok hc hx hy
  | d + 1, k, x, y, hx, hy => by
    have hl := (List.getElem?_eq_some_iff.1 hy).1
    have h1 := names_far hok hc d k x _ hx (List.getElem?_eq_getElem (show k + 1 + d < c.meths.length by omega))
    have h2 := names_lt hok hc (List.getElem?_eq_getElem (show k + 1 + d < c.meths.length by omega)) hy
    omega
theorem own_self {p : Prg} (hok : okP p = true) {i : Nat} {c : Cls} (hc : p[i]? = some c) {m : Meth} (hm : m ∈ c.meths) : ownF c m.name = some m := by
  obtain ⟨k, hk, rfl⟩ := List.getElem_of_mem hm
  refine find_at (k := k) (fun j hj y hy => ?_) (List.getElem?_eq_getElem hk) rfl
  have := names_far hok hc (k - j - 1) j y _ hy (by rw [show j + 1 + (k - j - 1) = k by omega]; exact List.getElem?_eq_getElem hk)
  omega
theorem dblN_of {p : Prg} (hok : okP p = true) {i : Nat} {c : Cls} (hc : p[i]? = some c) {m : Meth} (hm : m ∈ c.meths) : dblN p c m.name = dblB p c m := by
  unfold dblN
  rw [own_self hok hc hm]
set_option maxHeartbeats 400000 in
theorem numberOf (a b : Int) (ha : 0 ≤ a) (ha6 : a ≤ 6) (hb : 0 ≤ b) (hb19 : b ≤ 19) (w : World) :
    Calls Try.prog 46 #[.int .i64 a, .int .i64 b] w fun e w' => e = .returned (.int .i64 (a * 20 + b)) ∧ w' = w := by
  go_enter Try.func46, Try.ntmps46
  go_wp2
  go_ret
  exact ⟨rfl, rfl⟩
set_option maxRecDepth 100000 in
set_option maxHeartbeats 4000000 in
theorem implDoubles (B : Nat) (p : Prg) (a : Option Addr) (cap : Nat) (hsp : SmallP p) (w : World) (hp : SK front B w (.slice a p.length cap) p) :
    Calls Try.prog 19 #[.agg #[.slice a p.length cap]] w fun e w' => ∃ v, e = .returned v ∧ Grow w.heap.size w' v (dblL p) ∧ Below w.heap.size w w' := by
  obtain ⟨i0, hif, hz0, hz1, hz2⟩ := info_parts infoN
  have HSP : Hid (SmallP p) := hsp
  have HP : Hid (SK front B w (.slice a p.length cap) p) := hp
  clear hp hsp
  obtain ⟨W, hW⟩ : ∃ W, W = w.alloc (.cells #[.slice a p.length cap] 34) := ⟨_, rfl⟩
  have hwW : Below w.heap.size w W := by rw [hW]; exact (Below.refl _ _).alloc (Nat.le_refl _) _
  have P0 : Hid (Cells W w.heap.size [.slice a p.length cap]) := by rw [hW]; exact Cells.new w _ rfl _ _
  have HZ : Hid (W.heap.size = w.heap.size + 1) := by show _ = _; rw [hW]; simp
  obtain ⟨V, hV⟩ : ∃ V, V = W.alloc (.cells #[] 2) := ⟨_, rfl⟩
  have hWV : Below W.heap.size W V := by rw [hV]; exact (Below.refl _ _).alloc (Nat.le_refl _) _
  have G0 : Hid (Grow W.heap.size V (.slice (some ⟨W.heap.size, 0, none⟩) ([] : List Int).length 0) []) := by rw [hV]; exact grow_start W
  have P1 : Hid (Cells V w.heap.size [.slice a p.length cap]) := P0.out.on hWV
  have hwV : Below w.heap.size w V := below_over hwW hWV
  go_enter Try.func19, Try.ntmps19
  go_wp2_with fail
  rw [← HZ.out, ← hW, ← hV]
  clear hW hV
  refine (implProgramOk B p a cap HSP.out _ (SK.on HP.out (Keep.of hwV))).mono ?_
  rintro e w1 ⟨rfl, hb1⟩
  have hV1 : Below W.heap.size W w1 := below_over hWV hb1
  have hw1 : Below w.heap.size w w1 := below_over hwV hb1
  have G1 : Hid (Grow W.heap.size w1 (.slice (some ⟨W.heap.size, 0, none⟩) ([] : List Int).length 0) []) := G0.out.on hb1
  have P2 : Hid (Cells w1 w.heap.size [.slice a p.length cap]) := P1.out.on hb1
  clear hb1 G0 P1 hWV hwV
  cases hok : okP p
  · have HG : Hid (Grow w.heap.size w1 (.slice (some ⟨W.heap.size, 0, none⟩) ([] : List Int).length 0) (dblL p)) := by rw [dblL_no hok]; exact G1.out.base' (by have := HZ.out; omega)
    go_wp2
    go_ret
    exact ⟨_, rfl, HG.out, hw1⟩
  · have HOK : Hid (okP p = true) := hok
    have h6 := (okP_len hok).2
    obtain ⟨pp, _⟩ := P2.out.g0
    clear hok
    go_wp2
    go_loopw [3, 17] (fun y x wr => ∃ (i : Nat) (v0 : Value), i ≤ p.length ∧ x = .int .i64 (i : Int) ∧ v0 = y ∧ Hid (Grow W.heap.size wr v0 (dblT p i)) ∧ Below W.heap.size W wr) (fun _ x _ => p.length - (intOf x).toNat)
    case atStart => exact ⟨0, _, Nat.zero_le _, rfl, rfl, G1.out, hV1⟩
    case round =>
      clear G1 pp
      obtain ⟨i, v0, hi, rfl, rfl, hg, hb⟩ := hrel
      have hwr : Below w.heap.size w wr := hwW.trans (hb.mono hwW.size)
      obtain ⟨g, cp, rfl⟩ := hg.out.form
      have hgl := (hg.out.1.lt g rfl)
      have hln := dblT_len HOK.out i hi
      by_cases hlt : i < p.length
      · have hii : (i : Int) < (p.length : Int) := by omega
        obtain ⟨b, o, rfl, _, vf, vm, d0, d1, d2, hcv⟩ := HP.out.get hlt
        obtain ⟨z1, t1, rfl⟩ := hcv.1.form
        obtain ⟨z2, t2, rfl⟩ := hcv.2.form
        have l0 : b < w.heap.size := cell_lt d0
        have c0 := (hwr.cell l0).trans d0
        have c1 := (hwr.cell l0).trans d1
        have c2 := (hwr.cell l0).trans d2
        have HPI : Hid (p[i]? = some p[i]) := List.getElem?_eq_getElem hlt
        have HSM : Hid (SM front B w (.slice z2 p[i].meths.length t2) p[i].meths) := hcv.2
        have hsc := HSP.out.2 _ (List.getElem_mem hlt)
        have hsl := hsc.2.1
        have HSMM : Hid (∀ m ∈ p[i].meths, SmallM m) := hsc.2.2
        have HST : Hid (dblT p (i + 1) = dblT p i ++ (p[i].meths.filter (dblB p p[i])).map fun m => (i : Int) * 20 + m.name) := dbl_take HPI.out
        have HNM : Hid (∀ m ∈ p[i].meths, 0 ≤ m.name ∧ m.name ≤ 19) := fun m hm => name_bd HOK.out HPI.out hm
        have hfew := meths_few HOK.out HPI.out
        clear hcv hsc d0 d1 d2
        generalize p[i] = c at *
        obtain ⟨V1, hV1'⟩ : ∃ V1, V1 = wr.alloc (.cells #[.int .i64 c.super, .slice z1 c.fields.length t1, .slice z2 c.meths.length t2] 52) := ⟨_, rfl⟩
        have hrV : Below wr.heap.size wr V1 := by rw [hV1']; exact (Below.refl _ _).alloc (Nat.le_refl _) _
        have C1 : Hid (Cells V1 wr.heap.size [.int .i64 c.super, .slice z1 c.fields.length t1, .slice z2 c.meths.length t2]) := by rw [hV1']; exact Cells.new wr _ rfl _ _
        have hbV : Below W.heap.size W V1 := by rw [hV1']; exact hb.alloc hb.size _
        have hwV1 : Below w.heap.size w V1 := hwW.trans (hbV.mono hwW.size)
        have HGV : Hid (Grow W.heap.size V1 (.slice (some ⟨g, 0, none⟩) (dblT p i).length cp) (dblT p i)) := hg.out.on hrV
        have PV : Hid (Cells V1 w.heap.size [.slice (some ⟨b, o, none⟩) p.length cap]) := cells_lowP P0.out hbV (by have := HZ.out; omega)
        have KD : Below V1.heap.size V1 V1.drew ∧ V1.drew.cell? ⟨w.heap.size, 0, none⟩ = some (.slice (some ⟨b, o, none⟩) p.length cap) ∧ V1.drew.cell? ⟨wr.heap.size, 2, none⟩ = some (.slice z2 c.meths.length t2) :=
          have hd : Below V1.heap.size V1 V1.drew := (Below.refl _ _).drew
          ⟨hd, (PV.out.on hd).g0.1, (C1.out.on hd).g2.1⟩
        have HK : Hid (∀ X, Below V1.heap.size V1 X → Below V1.heap.size V1 X ∧ X.cell? ⟨w.heap.size, 0, none⟩ = some (.slice (some ⟨b, o, none⟩) p.length cap) ∧ X.cell? ⟨wr.heap.size, 2, none⟩ = some (.slice z2 c.meths.length t2)) := fun X hX => ⟨hX, (PV.out.on hX).g0.1, (C1.out.on hX).g2.1⟩
        have HFI : Hid (∀ (X : World) (b1 b2 : Nat), Below V1.heap.size V1 X → X.cell? ⟨b1, 0, none⟩ = some (.slice (some ⟨b, o, none⟩) p.length cap) → X.cell? ⟨b2, 0, none⟩ = some (.int .i64 (i : Int)) → Calls Try.prog 45 #[.agg #[.func (.func 67) #[] #[.pointer (some ⟨b1, 0, none⟩), .pointer (some ⟨b2, 0, none⟩)]], .slice z2 c.meths.length t2] X fun e w' => ∃ gq cq, e = .returned (.slice (some ⟨gq, 0, none⟩) (c.meths.filter (dblB p c)).length cq) ∧ QR gq (c.meths.filter (dblB p c)) w' ∧ X.heap.size ≤ gq ∧ gq < w'.heap.size ∧ Below X.heap.size X w') := fun X b1 b2 hX h1 h2 => by
          have hwX : Below w.heap.size w X := below_over hwV1 hX
          have hBw : B ≤ w.heap.size := by
            obtain ⟨_, _, hh, hBb, _⟩ := HP.out.get hlt
            injection hh with hh; injection hh with hh1 _
            omega
          refine (filterIn B b1 b2 (dblB p c) c.meths z2 t2 hsl w X hwX (Nat.le_trans hBw hwX.size) HSM.out (fun m hm va vc hmv Y hY => ?_)).mono ?_
          · have hwY : Below w.heap.size w Y := below_over hwX hY
            exact doublesOf1 B B p (some ⟨b, o, none⟩) cap i c HPI.out HOK.out HSP.out b1 b2 m (HSMM.out m hm).2 va vc Y (SK.on HP.out (Keep.of hwY)) ((hY.cell (cell_lt h1)).trans h1) ((hY.cell (cell_lt h2)).trans h2) (hmv.on (Keep.of hwY))
          · rintro e w' ⟨gq, cq, rfl, hsm, hg1, hg2, hb'⟩
            exact ⟨gq, cq, rfl, QR.of hsm, hg1, hg2, hb'⟩
        go_upto_region 8 with fail
        rw [← hV1']
        clear hV1' c0 c1 c2
        go_region_held3 (fun X => Below V1.heap.size V1 X ∧ X.cell? ⟨w.heap.size, 0, none⟩ = some (.slice (some ⟨b, o, none⟩) p.length cap) ∧ X.cell? ⟨wr.heap.size, 2, none⟩ = some (.slice z2 c.meths.length t2))
          (first | exact KD | assumption)
          (first
            | (go_at_call 44; refine (doublesOf (some ⟨b, o, none⟩) p.length cap (i : Int) _).mono ?_; rintro e wA ⟨rfl, hA1, hA2, hbA⟩; have KA := HK.out _ (below_over KD.1 hbA))
            | (go_at_call 45; refine (HFI.out _ _ _ KA.1 hA1 hA2).mono ?_; rintro e wB ⟨gq, cq, rfl, hqr, hgq, hgq2, hbB⟩; have KB := HK.out _ (below_over KA.1 hbB)))
        have hbWB : Below W.heap.size W wB := hbV.trans (KB.1.mono hbV.size)
        have HGB : Hid (Grow W.heap.size wB (.slice (some ⟨g, 0, none⟩) (dblT p i).length cp) (dblT p i)) := HGV.out.on KB.1
        have hgne : g ≠ gq := by have h1 := KA.1.size; have h2 := hrV.size; have h3 := hgl.2; omega
        have hfl4 : (c.meths.filter (dblB p c)).length ≤ 4 := Nat.le_trans (List.length_filter_le _ _) hfew
        have HFN : Hid (∀ m ∈ c.meths.filter (dblB p c), 0 ≤ m.name ∧ m.name ≤ 19) := fun m hm => HNM.out m (List.mem_filter.1 hm).1
        have HQ : Hid (QR gq (c.meths.filter (dblB p c)) wB) := hqr
        clear hqr hbB KB KA hbA hA1 hA2 KD HK HFI HGV PV hwV1 hbV C1 hrV HNM HSMM HSM hg hgl hgq
        generalize c.meths.filter (dblB p c) = fl at *
        clear hwr hb
        go_wp2
        go_loopw [3, 30] (fun y x w2 => ∃ (k : Nat) (v1 : Value), k ≤ fl.length ∧ x = .int .i64 (k : Int) ∧ v1 = y ∧ Hid (Grow W.heap.size w2 v1 (dblT p i ++ (fl.take k).map fun m => (i : Int) * 20 + m.name)) ∧ Hid (QR gq fl w2) ∧ v1.ownBlock ≠ some gq ∧ gq < w2.heap.size ∧ Below W.heap.size W w2) (fun _ x _ => fl.length - (intOf x).toNat)
        case atStart => exact ⟨0, _, Nat.zero_le _, rfl, rfl, by show Grow _ _ _ _; rw [List.take_zero, List.map_nil, List.append_nil]; exact HGB.out, HQ.out, by simp [Value.ownBlock, hgne], hgq2, hbWB⟩
        case round =>
          clear HGB HQ hgq2 hbWB hgne
          obtain ⟨k, v1, hk, rfl, rfl, hg2, hq2, hne, hgq2, hb2⟩ := hrel
          obtain ⟨g2, cp2, rfl⟩ := hg2.out.form
          have hgl2 := (hg2.out.1.lt g2 rfl)
          have hne2 : g2 ≠ gq := fun h => hne (by rw [h]; rfl)
          have hln2 : (dblT p i ++ (fl.take k).map fun m => (i : Int) * 20 + m.name).length ≤ 24 := by
            rw [List.length_append, List.length_map, List.length_take]; omega
          by_cases hlk : k < fl.length
          · have hki : (k : Int) < (fl.length : Int) := by omega
            obtain ⟨a1, n1, x1, a2, n2, x2, q0, q1, q2, q3⟩ := hq2.out k _ (List.getElem?_eq_getElem hlk)
            have HTK : Hid ((fl.take (k + 1)).map (fun m => (i : Int) * 20 + m.name) = (fl.take k).map (fun m => (i : Int) * 20 + m.name) ++ [(i : Int) * 20 + fl[k].name]) := map_take _ _ hlk
            have hnb := HFN.out fl[k] (List.getElem_mem hlk)
            generalize fl[k] = m at *
            have hn0 := hnb.1
            have hn1 := hnb.2
            clear hnb
            generalize hPRE : (dblT p i ++ (fl.take k).map fun m => (i : Int) * 20 + m.name) = pre at *
            have HPRE : Hid (dblT p i ++ (fl.take k).map (fun m => (i : Int) * 20 + m.name) = pre) := hPRE
            clear hPRE
            obtain ⟨V2, hV2⟩ : ∃ V2, V2 = wr.alloc (.cells #[.int .i64 m.name, .slice a1 n1 x1, .int .i64 m.gives, .slice a2 n2 x2] 29) := ⟨_, rfl⟩
            have hVV : Below wr.heap.size wr V2 := by rw [hV2]; exact (Below.refl _ _).alloc (Nat.le_refl _) _
            have M2 : Hid (Cells V2 wr.heap.size [.int .i64 m.name, .slice a1 n1 x1, .int .i64 m.gives, .slice a2 n2 x2]) := by rw [hV2]; exact Cells.new wr _ rfl _ _
            have hbV2 : Below W.heap.size W V2 := by rw [hV2]; exact hb2.alloc hb2.size _
            have HG2 : Hid (Grow W.heap.size V2 (.slice (some ⟨g2, 0, none⟩) pre.length cp2) pre) := hg2.out.on hVV
            have HQ2 : Hid (QR gq fl V2) := hq2.out.blk (hVV.block gq hgq2)
            have hgq3 : gq < V2.heap.size := Nat.lt_of_lt_of_le hgq2 hVV.size
            have hg23 : g2 < V2.heap.size := Nat.lt_of_lt_of_le hgl2.2 hVV.size
            have m0 := M2.out.g0.1
            go_upto_region 11 with fail
            rw [← hV2]
            clear hV2 q0 q1 q2 q3 hVV hg2 hq2 M2 hb2 hgq2
            go_wp2_with fail
            refine (numberOf (i : Int) m.name (by omega) (by omega) hn0 hn1 V2).mono ?_
            rintro e X2 ⟨rfl, hX2⟩
            obtain rfl : V2 = X2 := hX2.symm
            clear hX2
            go_wp2_with (at_builtin; refine wpList_append_own_at _ rfl _ _ 26 rfl W.heap.size 2 i0 (.int .i64 0) 1 8 Try.underlying26 hif hz0 hz1 hz2 rfl (by decide) _ _ _ rfl (HG2.out.1.alloc _) ⟨V2.heap.size, 0, none⟩ 1 1 [.int .i64 ((i : Int) * 20 + m.name)] rfl rfl (cell_one_new _ _ _) (by simp [Value.oneCell']) (by unfold maxLen; omega) (by omega) (by have := hbV2.size; simp; omega) ?_)
            intro v3 w3 hown3 hgrow3 hnil3 hat3
            have hb3 : Below W.heap.size W w3 := (hbV2.alloc hbV2.size _).grown hgrow3 (by have := hbV2.size; simp; omega) (fun q hq => by simp [Value.ownBlock] at hq; subst hq; exact hgl2.1)
            have HG3 : Hid (Grow W.heap.size w3 v3 (dblT p i ++ (fl.take (k + 1)).map fun m => (i : Int) * 20 + m.name)) := by
              show Grow _ _ _ _
              rw [HTK.out, ← List.append_assoc, HPRE.out]
              exact grow_next hown3 (fun h => hnil3 h)
            have HQ3 : Hid (QR gq fl w3) := by
              refine (HQ2.out.blk (w := V2.alloc (.cells #[.int .i64 ((i : Int) * 20 + m.name)] 2)) (Below.heap_alloc V2 _ gq hgq3)).blk ?_
              refine hgrow3.block gq (by simp; omega) ?_
              intro h
              exact hne2 (by simpa [Value.ownBlock] using h.symm)
            have hzw : (V2.alloc (.cells #[.int .i64 ((i : Int) * 20 + m.name)] 2)).heap.size = V2.heap.size + 1 := by simp
            have hne3 : v3.ownBlock ≠ some gq := by
              rcases hat3 with h | h
              · rw [h]; exact hne
              · rw [h]; intro h2; injection h2 with h2; omega
            have hgq4 : gq < w3.heap.size := by have := hgrow3.size; omega
            clear hown3 hgrow3 hnil3 hat3 hzw HG2 HQ2 HTK HPRE m0 hbV2 hne hne2 hgl2 hg23 hgq3
            go_wp2
            go_roundw
            case rel => exact ⟨k + 1, v3, by omega, by go_num, rfl, HG3.out, HQ3.out, hne3, hgq4, hb3⟩
            case measure => simp [intOf]; omega
          · have hki : ¬ (k : Int) < (fl.length : Int) := by omega
            have HGN : Hid (Grow W.heap.size wr (.slice (some ⟨g2, 0, none⟩) (dblT p i ++ (fl.take k).map fun m => (i : Int) * 20 + m.name).length cp2) (dblT p (i + 1))) := by
              have h := hg2.out
              have e : (dblT p i ++ (fl.take k).map fun m => (i : Int) * 20 + m.name) = dblT p (i + 1) := by
                rw [HST.out, List.take_of_length_le (by omega)]
              rw [e] at h ⊢
              exact h
            clear hg2 hq2 HST
            generalize (dblT p i ++ (fl.take k).map fun m => (i : Int) * 20 + m.name).length = nn at *
            go_wp2
            go_roundw
            case rel => exact ⟨i + 1, _, by omega, by go_num, rfl, HGN.out, hb2⟩
            case measure => simp [intOf]; omega
      · have hii : ¬ (i : Int) < (p.length : Int) := by omega
        obtain rfl : i = p.length := by omega
        have HG : Hid (Grow w.heap.size wr (.slice (some ⟨g, 0, none⟩) (dblT p p.length).length cp) (dblL p)) := by rw [dblL_yes HOK.out]; exact hg.out.base' (by have := HZ.out; omega)
        clear hg
        go_wp2
        go_ret
        exact ⟨_, rfl, HG.out, hwr⟩
set_option maxRecDepth 100000 in
set_option maxHeartbeats 4000000 in
theorem l13Doubles (B : Nat) (p : Prg) (a : Option Addr) (cap : Nat) (hok : okP p = true) (hsp : SmallP p) (w : World) (hp : SK front B w (.slice a p.length cap) p) :
    Calls Try.prog 42 #[.agg #[.slice a p.length cap]] w fun e w' => ∃ v, e = .returned v ∧ Grow w.heap.size w' v (dblT p p.length) ∧ Below w.heap.size w w' := by
  obtain ⟨i0, hif, hz0, hz1, hz2⟩ := info_parts infoN
  have HSP : Hid (SmallP p) := hsp
  have HP : Hid (SK front B w (.slice a p.length cap) p) := hp
  have HOK : Hid (okP p = true) := hok
  have h6 := (okP_len hok).2
  clear hp hsp hok
  obtain ⟨W, hW⟩ : ∃ W, W = w.alloc (.cells #[.slice a p.length cap] 34) := ⟨_, rfl⟩
  have hwW : Below w.heap.size w W := by rw [hW]; exact (Below.refl _ _).alloc (Nat.le_refl _) _
  have P0 : Hid (Cells W w.heap.size [.slice a p.length cap]) := by rw [hW]; exact Cells.new w _ rfl _ _
  have HZ : Hid (W.heap.size = w.heap.size + 1) := by show _ = _; rw [hW]; simp
  obtain ⟨V, hV⟩ : ∃ V, V = W.alloc (.cells #[] 2) := ⟨_, rfl⟩
  have hWV : Below W.heap.size W V := by rw [hV]; exact (Below.refl _ _).alloc (Nat.le_refl _) _
  have G0 : Hid (Grow W.heap.size V (.slice (some ⟨W.heap.size, 0, none⟩) ([] : List Int).length 0) []) := by rw [hV]; exact grow_start W
  go_enter Try.func42, Try.ntmps42
  go_wp2
  rw [← HZ.out, ← hW, ← hV]
  clear hW hV
  go_loopw [3, 4] (fun y x wr => ∃ (i : Nat) (v0 : Value), i ≤ p.length ∧ x = .int .i64 (i : Int) ∧ v0 = y ∧ Hid (Grow W.heap.size wr v0 (dblT p i)) ∧ Below W.heap.size W wr) (fun _ x _ => p.length - (intOf x).toNat)
  case atStart => exact ⟨0, _, Nat.zero_le _, rfl, rfl, G0.out, hWV⟩
  case round =>
    clear G0 hWV
    obtain ⟨i, v0, hi, rfl, rfl, hg, hb⟩ := hrel
    have hwr : Below w.heap.size w wr := hwW.trans (hb.mono hwW.size)
    obtain ⟨g, cp, rfl⟩ := hg.out.form
    have hln := dblT_len HOK.out i hi
    obtain ⟨pw, _⟩ := (cells_lowP P0.out hb (by have := HZ.out; omega)).g0
    by_cases hlt : i < p.length
    · have hii : (i : Int) < (p.length : Int) := by omega
      have hi0 : (0 : Int) ≤ (i : Int) := by omega
      obtain ⟨b, o, rfl, _, vf, vm, d0, d1, d2, hcv⟩ := HP.out.get hlt
      obtain ⟨z1, t1, rfl⟩ := hcv.1.form
      obtain ⟨z2, t2, rfl⟩ := hcv.2.form
      have l0 : b < w.heap.size := cell_lt d0
      have HPI : Hid (p[i]? = some p[i]) := List.getElem?_eq_getElem hlt
      have HSM : Hid (SM front B w (.slice z2 p[i].meths.length t2) p[i].meths) := hcv.2
      have hsl := (HSP.out.2 _ (List.getElem_mem hlt)).2.1
      have HST : Hid (dblT p (i + 1) = dblT p i ++ (p[i].meths.filter (dblB p p[i])).map fun m => (i : Int) * 20 + m.name) := dbl_take HPI.out
      have HNM : Hid (∀ m ∈ p[i].meths, 0 ≤ m.name ∧ m.name ≤ 19) := fun m hm => name_bd HOK.out HPI.out hm
      have HON : Hid (∀ m ∈ p[i].meths, dblN p p[i] m.name = dblB p p[i] m) := fun m hm => dblN_of HOK.out HPI.out hm
      have hfew := meths_few HOK.out HPI.out
      have HD2 : Hid (w.cell? ⟨b, o + i * 3 + 2, none⟩ = some (.slice z2 p[i].meths.length t2)) := d2
      clear hcv d0 d1 d2
      generalize p[i] = c at *
      clear hwr
      go_wp2
      go_loopw [3, 5] (fun y x wr => ∃ (k : Nat) (v1 : Value), k ≤ c.meths.length ∧ x = .int .i64 (k : Int) ∧ v1 = y ∧ Hid (Grow W.heap.size wr v1 (dblT p i ++ ((c.meths.take k).filter (dblB p c)).map fun m => (i : Int) * 20 + m.name)) ∧ Below W.heap.size W wr) (fun _ x _ => c.meths.length - (intOf x).toNat)
      case atStart => exact ⟨0, _, Nat.zero_le _, rfl, rfl, by show Grow _ _ _ _; rw [List.take_zero, List.filter_nil, List.map_nil, List.append_nil]; exact hg.out, hb⟩
      case round =>
        clear hg hb pw
        obtain ⟨k, v1, hk, rfl, rfl, hg2, hb2⟩ := hrel
        have hwr : Below w.heap.size w wr := hwW.trans (hb2.mono hwW.size)
        obtain ⟨g2, cp2, rfl⟩ := hg2.out.form
        have hgl2 := (hg2.out.1.lt g2 rfl)
        have PR : Hid (Cells wr w.heap.size [.slice (some ⟨b, o, none⟩) p.length cap]) := cells_lowP P0.out hb2 (by have := HZ.out; omega)
        obtain ⟨pw, _⟩ := PR.out.g0
        have c2 := (hwr.cell l0).trans HD2.out
        have hln2 : (dblT p i ++ ((c.meths.take k).filter (dblB p c)).map fun m => (i : Int) * 20 + m.name).length ≤ 24 := by
          have h1 := List.length_filter_le (dblB p c) (c.meths.take k)
          rw [List.length_take] at h1
          rw [List.length_append, List.length_map]; omega
        by_cases hlk : k < c.meths.length
        · have hki : (k : Int) < (c.meths.length : Int) := by omega
          obtain ⟨bm, om, rfl, _, va, vc, m0, m1, m2, m3, hmv⟩ := HSM.out.get hlk
          have lm : bm < w.heap.size := cell_lt m0
          have n0 := (hwr.cell lm).trans m0
          have HTK : Hid (((c.meths.take (k + 1)).filter (dblB p c)).map (fun m => (i : Int) * 20 + m.name) = ((c.meths.take k).filter (dblB p c)).map (fun m => (i : Int) * 20 + m.name) ++ if dblB p c c.meths[k] then [(i : Int) * 20 + c.meths[k].name] else []) := by
            show _ = _
            rw [List.take_succ_eq_append_getElem hlk, List.filter_append, List.filter_cons, List.map_append]
            simp only [List.filter_nil]
            cases dblB p c c.meths[k] <;> rfl
          have hnb := HNM.out c.meths[k] (List.getElem_mem hlk)
          have HDB : Hid (dblN p c c.meths[k].name = dblB p c c.meths[k]) := HON.out _ (List.getElem_mem hlk)
          clear hmv m0 m1 m2 m3
          generalize c.meths[k] = m at *
          have hn0 := hnb.1
          have hn1 := hnb.2
          clear hnb
          generalize hPRE : (dblT p i ++ ((c.meths.take k).filter (dblB p c)).map fun m => (i : Int) * 20 + m.name) = pre at *
          have HPRE : Hid (dblT p i ++ ((c.meths.take k).filter (dblB p c)).map (fun m => (i : Int) * 20 + m.name) = pre) := hPRE
          clear hPRE
          go_wp2_with fail
          refine (l13Double B p (some ⟨b, o, none⟩) cap i c HPI.out m.name HOK.out HSP.out wr (SK.on HP.out (Keep.of hwr))).mono ?_
          rintro e V2 ⟨rfl, hV2⟩
          have hbV2 : Below W.heap.size W V2 := hb2.trans (hV2.mono hb2.size)
          have HG2 : Hid (Grow W.heap.size V2 (.slice (some ⟨g2, 0, none⟩) pre.length cp2) pre) := hg2.out.on hV2
          have hg23 : g2 < V2.heap.size := Nat.lt_of_lt_of_le hgl2.2 hV2.size
          rw [HDB.out]
          clear hg2 hb2 hV2 pw c2 n0 PR hwr
          cases hq : dblB p c m
          · have HG3 : Hid (Grow W.heap.size V2 (.slice (some ⟨g2, 0, none⟩) pre.length cp2) (dblT p i ++ ((c.meths.take (k + 1)).filter (dblB p c)).map fun m => (i : Int) * 20 + m.name)) := by
              show Grow _ _ _ _
              rw [HTK.out, hq, ← List.append_assoc, HPRE.out]
              simp only [Bool.false_eq_true, if_false, List.append_nil]
              exact HG2.out
            clear HG2 HTK HPRE hq HDB
            go_wp2
            go_roundw
            case rel => exact ⟨k + 1, _, by omega, by go_num, rfl, HG3.out, hbV2⟩
            case measure => simp [intOf]; omega
          · rw [hq] at HTK
            go_wp2_with (at_builtin; refine wpList_append_own _ rfl _ _ 26 rfl W.heap.size 2 i0 (.int .i64 0) 1 8 Try.underlying26 hif hz0 hz1 hz2 rfl (by decide) _ _ _ rfl (HG2.out.1.alloc _) ⟨V2.heap.size, 0, none⟩ 1 1 [.int .i64 ((i : Int) * 20 + m.name)] rfl rfl (cell_one_new _ _ _) (by simp [Value.oneCell']) (by unfold maxLen; omega) (by omega) (by have := hbV2.size; simp; omega) ?_)
            intro v3 w3 hown3 hgrow3 hnil3
            have hb3 : Below W.heap.size W w3 := (hbV2.alloc hbV2.size _).grown hgrow3 (by have := hbV2.size; simp; omega) (fun q hq => by simp [Value.ownBlock] at hq; subst hq; exact hgl2.1)
            have HG3 : Hid (Grow W.heap.size w3 v3 (dblT p i ++ ((c.meths.take (k + 1)).filter (dblB p c)).map fun m => (i : Int) * 20 + m.name)) := by
              show Grow _ _ _ _
              rw [HTK.out, ← List.append_assoc, HPRE.out]
              exact grow_next hown3 (fun h => by first | exact hnil3 h | exact absurd (hnil3.1 h).1 (by simp))
            clear hown3 hgrow3 hnil3 HG2 HTK HPRE hbV2 hgl2 hg23 hq HDB
            go_wp2
            go_roundw
            case rel => exact ⟨k + 1, v3, by omega, by go_num, rfl, HG3.out, hb3⟩
            case measure => simp [intOf]; omega
        · have hki : ¬ (k : Int) < (c.meths.length : Int) := by omega
          have HGN : Hid (Grow W.heap.size wr (.slice (some ⟨g2, 0, none⟩) (dblT p i ++ ((c.meths.take k).filter (dblB p c)).map fun m => (i : Int) * 20 + m.name).length cp2) (dblT p (i + 1))) := by
            have h := hg2.out
            have e : (dblT p i ++ ((c.meths.take k).filter (dblB p c)).map fun m => (i : Int) * 20 + m.name) = dblT p (i + 1) := by
              rw [HST.out, List.take_of_length_le (by omega)]
            rw [e] at h ⊢
            exact h
          clear hg2 HST
          generalize (dblT p i ++ ((c.meths.take k).filter (dblB p c)).map fun m => (i : Int) * 20 + m.name).length = nn at *
          go_wp2
          go_roundw
          case rel => exact ⟨i + 1, _, by omega, by go_num, rfl, HGN.out, hb2⟩
          case measure => simp [intOf]; omega
    · have hii : ¬ (i : Int) < (p.length : Int) := by omega
      obtain rfl : i = p.length := by omega
      have HG : Hid (Grow w.heap.size wr (.slice (some ⟨g, 0, none⟩) (dblT p p.length).length cp) (dblT p p.length)) := hg.out.base' (by have := HZ.out; omega)
      clear hg
      go_wp2
      go_ret
      exact ⟨_, rfl, HG.out, hwr⟩
set_option maxRecDepth 100000 in
set_option maxHeartbeats 2000000 in
theorem specDoubles (B : Nat) (p : Prg) (a : Option Addr) (cap : Nat) (hsp : SmallP p) (w : World) (hp : SK front B w (.slice a p.length cap) p) :
    Calls Try.prog 18 #[.agg #[.slice a p.length cap]] w fun e w' => ∃ v, e = .returned v ∧ Grow w.heap.size w' v (dblL p) ∧ Below w.heap.size w w' := by
  have HSP : Hid (SmallP p) := hsp
  have HP : Hid (SK front B w (.slice a p.length cap) p) := hp
  clear hp hsp
  obtain ⟨W, hW⟩ : ∃ W, W = w.alloc (.cells #[.slice a p.length cap] 34) := ⟨_, rfl⟩
  have hwW : Below w.heap.size w W := by rw [hW]; exact (Below.refl _ _).alloc (Nat.le_refl _) _
  have P0 : Hid (Cells W w.heap.size [.slice a p.length cap]) := by rw [hW]; exact Cells.new w _ rfl _ _
  go_enter Try.func18, Try.ntmps18
  go_wp2_with fail
  rw [← hW]
  clear hW
  refine (specProgramOk B p a cap HSP.out _ (SK.on HP.out (Keep.of hwW))).mono ?_
  rintro e w1 ⟨rfl, hb1⟩
  have hw1 : Below w.heap.size w w1 := below_over hwW hb1
  obtain ⟨pp, _⟩ := (P0.out.on hb1).g0
  clear hb1 P0
  cases hok : okP p
  · have HG : Hid (Grow w.heap.size (w1.alloc (.cells #[] 2)) (.slice (some ⟨w1.heap.size, 0, none⟩) 0 0) (dblL p)) := by rw [dblL_no hok]; exact (grow_start w1).base' hw1.size
    have hwA : Below w.heap.size w (w1.alloc (.cells #[] 2)) := hw1.alloc hw1.size _
    go_wp2
    go_ret
    exact ⟨_, rfl, HG.out, hwA⟩
  · have HOK : Hid (okP p = true) := hok
    clear hok
    go_wp2_with fail
    refine (l13Doubles B p a cap HOK.out HSP.out w1 (SK.on HP.out (Keep.of hw1))).mono ?_
    rintro e w2 ⟨v, rfl, hg, hb2⟩
    have hw2 : Below w.heap.size w w2 := below_over hw1 hb2
    obtain ⟨g, cp, rfl⟩ := hg.form
    have HG : Hid (Grow w.heap.size w2 (.slice (some ⟨g, 0, none⟩) (dblT p p.length).length cp) (dblL p)) := by rw [dblL_yes HOK.out]; exact hg.base' hw1.size
    clear hg hb2 pp
    go_wp2
    go_ret
    exact ⟨_, rfl, HG.out, hw2⟩
end Pg
end Go.Proofs.Ytbfiijfaaknhaaa
