/- The contract of the program's Single. -/
import Derived.Test.YtjchmpdobghhnaaJZc5
import Derived.Deep.RegionHeld3
import Derived.Deep.RegionLaw
namespace Go.Proofs.Ytjchmpdobghhnaa
namespace Pg
open Go.ChangeShapes Go.WideShapes Go.ChangeAt Go.RowKit St

theorem adCl_congr {u w : World} {g : Nat} : ∀ (cs : List Cls) (o : Nat), (∀ j x, cs[j]? = some x → adC w g (o + j * 3) x = adC u g (o + j * 3) x) → adCl w g o cs = adCl u g o cs
  | [], _, _ => rfl
  | c :: cs, o, h => by
    have h0 := h 0 c rfl
    simp only [Nat.zero_mul, Nat.add_zero] at h0
    have ih := adCl_congr (u := u) (w := w) (g := g) cs (o + 3) (fun j x hj => by
      have h1 := h (j + 1) x (by simpa using hj)
      have e : o + (j + 1) * 3 = o + 3 + j * 3 := by omega
      exact e ▸ h1)
    simp only [adCl]
    rw [h0, ih]
theorem adP_keep {B : Nat} {u w : World} {v : Value} {cs : Prg} (h : SK front B u v cs) (hk : Keep B u w) : adP w v cs = adP u v cs := by
  obtain ⟨a, cap, hv, _, hx⟩ := h
  subst hv
  match a with
  | none => rfl
  | some ⟨b, o, some sp⟩ => rfl
  | some ⟨b, o, none⟩ =>
    show adCl w b o cs = adCl u b o cs
    refine adCl_congr _ _ (fun j x hj => ?_)
    obtain ⟨b', o', he, hB, ⟨hl, _⟩, he2⟩ := hx (by have := (List.getElem?_eq_some_iff.1 hj).1; omega)
    injection he with he
    injection he with e1 e2
    subst e1 e2
    obtain ⟨vf, vm, c0, c1, c2, hcv⟩ := he2 j x hj
    have k1 := (hk.cell hB hl).trans c1
    have k2 := (hk.cell hB hl).trans c2
    unfold adC cellD
    rw [k1, k2, c1, c2]
    show _ :: (_ ++ adMs w vm x.meths) = _ :: (_ ++ adMs u vm x.meths)
    rw [adMs_keep hcv.2 hk]
set_option maxRecDepth 100000 in
set_option maxHeartbeats 8000000 in
theorem implSingle (B : Nat) (p : Prg) (a : Option Addr) (cap : Nat) (hsp : SmallP p) (w : World) (hp : SK front B w (.slice a p.length cap) p) :
    Calls Try.prog 7 #[.agg #[.slice a p.length cap]] w fun e w' => ∃ v, e = .returned (.agg #[v]) ∧ SK front w.heap.size w' v (sngP p) ∧ (adP w' v (sngP p)).Nodup ∧ Below w.heap.size w w' := by
  obtain ⟨jk, hjk, hk0, hk1, hk2⟩ := info_parts infoCl
  have HSP : Hid (SmallP p) := hsp
  have HP : Hid (SK front B w (.slice a p.length cap) p) := hp
  clear hp hsp
  obtain ⟨s, hs⟩ : ∃ s, w.heap.size = s := ⟨_, rfl⟩
  obtain ⟨W, hW⟩ : ∃ W, W = (w.alloc (.cells #[.slice a p.length cap] 28)).alloc (.cells #[.slice none 0 0] 28) := ⟨_, rfl⟩
  have hwW : Below w.heap.size w W := by rw [hW]; exact ((Below.refl _ _).alloc (Nat.le_refl _) _).alloc (by simp) _
  have P0 : Hid (Cells W w.heap.size [.slice a p.length cap]) := by show Cells _ _ _; rw [hW]; exact (Cells.new w _ rfl _ _).alloc _
  have R0 : Hid (Cells W (w.heap.size + 1) [.slice none 0 0]) := by show Cells _ _ _; rw [hW]; exact Cells.new (w.alloc _) _ (by simp) _ _
  rw [hs] at P0 R0
  rw [hs]
  go_enter Try.func7, Try.ntmps7
  go_wp2_with fail
  try rw [hs]
  rw [← hW]
  clear hW
  refine (implProgramOk B p a cap HSP.out _ (SK.on HP.out (Keep.of hwW))).mono ?_
  rintro e w1 ⟨rfl, hb1⟩
  have hw1 : Below s w w1 := by rw [← hs]; exact below_over hwW hb1
  have P1 : Hid (Cells w1 s [.slice a p.length cap]) := P0.out.on hb1
  have R1 : Hid (Cells w1 (s + 1) [.slice none 0 0]) := R0.out.on hb1
  clear hb1 P0 R0 hwW
  cases hok : okP p
  · obtain ⟨r0, q0⟩ := R1.out.g0
    have e0 := (R1.out.s0 (.slice none 0 0)).g0.1
    have HS : Hid (sngP p = []) := by show _ = _; unfold sngP; rw [hok]; rfl
    have HB : Hid (Below s w (w1.setCell ⟨s + 1, 0, none⟩ (.slice none 0 0))) := hw1.setCell (p := ⟨s + 1, 0, none⟩) (by show s ≤ s + 1; omega) _
    clear hok
    go_wp2
    refine bodyPost_ret (v := .agg #[.slice none 0 0]) (by simp [results, Try.results7, go_sem, e0]) rfl ?_
    first | exact ⟨_, rfl, by rw [HS.out]; exact sk_none _ _, by rw [HS.out]; exact List.Pairwise.nil, HB.out⟩ | exact ⟨rfl, by rw [HS.out]; exact sk_none _ _, by rw [HS.out]; exact List.Pairwise.nil, HB.out⟩
  · have HOK : Hid (okP p = true) := hok
    have hn6 : p.length ≤ 6 := (okP_len hok).2
    have HSG : Hid (sngP p = p.map (sngC p)) := by show _ = _; unfold sngP; rw [if_pos hok]
    clear hok
    obtain ⟨kb, hkb⟩ : ∃ kb, w1.heap.size = kb := ⟨_, rfl⟩
    obtain ⟨V, hV⟩ : ∃ V, V = w1.alloc (.cells #[.slice none 0 0] 28) := ⟨_, rfl⟩
    have hb1V : Below w1.heap.size w1 V := by rw [hV]; exact (Below.refl _ _).alloc (Nat.le_refl _) _
    have KV : Hid (Cells V kb [.slice none 0 0]) := by show Cells _ _ _; rw [hV, ← hkb]; exact Cells.new w1 _ rfl _ _
    have PV : Hid (Cells V s [.slice a p.length cap]) := P1.out.on hb1V
    have RV : Hid (Cells V (s + 1) [.slice none 0 0]) := R1.out.on hb1V
    have BV : Below s w V := hw1.trans (hb1V.mono (by have h : s + 1 < w1.heap.size := St.cell_lt R1.out.g0.1; omega))
    have hskb : s + 1 < kb := by rw [← hkb]; exact St.cell_lt R1.out.g0.1
    have hp1 := P1.out.g0.1
    have hpp : (w1.alloc (.cells #[.slice none 0 0] 28)).cell? ⟨s, 0, none⟩ = some (.slice a p.length cap) := by rw [← hV]; exact PV.out.g0.1
    clear P1 R1 hb1V hw1
    go_wp2_with fail
    try rw [hkb]
    rw [← hV]
    clear hV hkb hpp hp1
    go_loopw [14] (fun x wr => ∃ (i T : Nat) (v : Value) (l : List (Cls × Value × Value)), i ≤ p.length ∧ x = .int .i64 (i : Int) ∧ Hid (l.map (·.1) = (p.take i).map (sngC p)) ∧ Hid (KQ QS (kb + 1) T wr v l) ∧ T ≤ wr.heap.size ∧ Hid (Cells wr kb [v]) ∧ Hid (Cells wr s [.slice a p.length cap]) ∧ Hid (Cells wr (s + 1) [.slice none 0 0]) ∧ Below s w wr) (fun x _ => p.length - (intOf x).toNat)
    case atStart => exact ⟨0, _, _, [], Nat.zero_le _, rfl, rfl, KQ.nil _ _ _ _, Nat.le_refl _, KV.out, PV.out, RV.out, BV⟩
    case round =>
      clear KV PV RV BV
      obtain ⟨i, T, v, l, hi, rfl, hl, hKQ, hT, hK, hP, hR, hb⟩ := hrel
      have hkl : kb < wr.heap.size := St.cell_lt hK.out.g0.1
      by_cases hlt : i < p.length
      · have hii : (i : Int) < (p.length : Int) := by omega
        obtain ⟨b, o, rfl, hBb, vf, vm, d0, d1, d2, hcv⟩ := HP.out.get hlt
        obtain ⟨z1, t1, rfl⟩ := hcv.1.form
        obtain ⟨z2, t2, rfl⟩ := hcv.2.form
        have l0 : b < s := by have := cell_lt d0; rw [← hs]; exact this
        have c0 := (hb.cell l0).trans d0
        have c1 := (hb.cell l0).trans d1
        have c2 := (hb.cell l0).trans d2
        have HPI : Hid (p[i]? = some p[i]) := List.getElem?_eq_getElem hlt
        have HSI : Hid (SI true B w (.slice z1 p[i].fields.length t1) p[i].fields) := hcv.1
        have HSM : Hid (SM front B w (.slice z2 p[i].meths.length t2) p[i].meths) := hcv.2
        have hsc := HSP.out.2 _ (List.getElem_mem hlt)
        have hsf := hsc.1
        have hsl := hsc.2.1
        have HSMM : Hid (∀ m ∈ p[i].meths, SmallM m) := hsc.2.2
        have HL : Hid ((p.take (i + 1)).map (sngC p) = (p.take i).map (sngC p) ++ [sngC p p[i]]) := map_take _ _ hlt
        clear hcv hsc d0 d1 d2
        generalize p[i] = c at *
        obtain ⟨V1, hV1⟩ : ∃ V1, V1 = wr.alloc (.cells #[.int .i64 c.super, .slice z1 c.fields.length t1, .slice z2 c.meths.length t2] 42) := ⟨_, rfl⟩
        have hrV : Below wr.heap.size wr V1 := by rw [hV1]; exact (Below.refl _ _).alloc (Nat.le_refl _) _
        have C1 : Hid (Cells V1 wr.heap.size [.int .i64 c.super, .slice z1 c.fields.length t1, .slice z2 c.meths.length t2]) := by show Cells _ _ _; rw [hV1]; exact Cells.new wr _ rfl _ _
        have hsV : s ≤ wr.heap.size := by omega
        have hwV1 : Below s w V1 := hb.trans (hrV.mono hsV)
        have PV : Hid (Cells V1 s [.slice (some ⟨b, o, none⟩) p.length cap]) := hP.out.on hrV
        have HBW : Hid (B ≤ w.heap.size) := by show _ ≤ _; omega
        have HK : Hid (∀ X, Below V1.heap.size V1 X → Below V1.heap.size V1 X ∧ X.cell? ⟨s, 0, none⟩ = some (.slice (some ⟨b, o, none⟩) p.length cap) ∧ X.cell? ⟨wr.heap.size, 2, none⟩ = some (.slice z2 c.meths.length t2)) := fun X hX => ⟨hX, (PV.out.on hX).g0.1, (C1.out.on hX).g2.1⟩
        have KD := HK.out _ (Below.refl V1.heap.size V1).drew
        have HFI : Hid (∀ (X : World) (b1 b2 bo : Nat), Below V1.heap.size V1 X → X.cell? ⟨b1, 0, none⟩ = some (.slice (some ⟨b, o, none⟩) p.length cap) → X.cell? ⟨b2, 0, none⟩ = some (.int .i64 (i : Int)) → X.cell? ⟨bo, 0, none⟩ = some (.func (.func 36) #[] #[.pointer (some ⟨b1, 0, none⟩), .pointer (some ⟨b2, 0, none⟩)]) → Calls Try.prog 19 #[.agg #[.func (.func 38) #[] #[.pointer (some ⟨bo, 0, none⟩)]], .slice z2 c.meths.length t2] X fun e w' => ∃ gq cq, e = .returned (.slice (some ⟨gq, 0, none⟩) (c.meths.filter fun m => !dblB p c m).length cq) ∧ SM front B w' (.slice (some ⟨gq, 0, none⟩) (c.meths.filter fun m => !dblB p c m).length cq) (c.meths.filter fun m => !dblB p c m) ∧ X.heap.size ≤ gq ∧ gq < w'.heap.size ∧ Below X.heap.size X w') := fun X b1 b2 bo hX h1 h2 h3 => by
          have hwX : Below w.heap.size w X := by rw [hs]; exact hwV1.trans (hX.mono (by have := hrV.size; omega))
          refine filterNot B bo (fun m => !dblB p c m) c.meths z2 t2 hsl w X hwX (Nat.le_trans HBW.out hwX.size) HSM.out (fun m hm va vc hmv Y hY => ?_)
          have hwY : Below w.heap.size w Y := below_over hwX hY
          refine others1 b1 b2 bo m va vc hmv.1.form (front.form hmv.2) (dblB p c m) Y ((hY.cell (cell_lt h3)).trans h3) (fun Z hZ => ?_)
          have hXZ := below_over hY hZ
          have hwZ : Below w.heap.size w Z := below_over hwX hXZ
          exact doublesOf1 B B p (some ⟨b, o, none⟩) cap i c HPI.out HOK.out HSP.out b1 b2 m (HSMM.out m hm).2 va vc Z (SK.on HP.out (Keep.of hwZ)) ((hXZ.cell (cell_lt h1)).trans h1) ((hXZ.cell (cell_lt h2)).trans h2) (hmv.on (Keep.of hwZ))
        go_upto_region 7 with fail
        rw [← hV1]
        clear hV1 c0 c1 c2
        go_region_held3 (fun X => Below V1.heap.size V1 X ∧ X.cell? ⟨s, 0, none⟩ = some (.slice (some ⟨b, o, none⟩) p.length cap) ∧ X.cell? ⟨wr.heap.size, 2, none⟩ = some (.slice z2 c.meths.length t2))
          (first | exact KD | assumption)
          (first
            | (go_at_call 17; refine (doublesOf (some ⟨b, o, none⟩) p.length cap (i : Int) _).mono ?_; rintro e wA ⟨rfl, hA1, hA2, hbA⟩; have KA := HK.out _ (below_over KD.1 hbA))
            | (go_at_call 18; refine (others _ _ _).mono ?_; rintro e wO ⟨rfl, hO1, hbO⟩; have KO := HK.out _ (below_over KA.1 hbO); have hA1' := (hbO.cell (cell_lt hA1)).trans hA1; have hA2' := (hbO.cell (cell_lt hA2)).trans hA2)
            | (go_at_call 19; refine (HFI.out _ _ _ _ KO.1 hA1' hA2' hO1).mono ?_; rintro e wB ⟨gq, cq, rfl, hqr, hgq, hgq2, hbB⟩; have KB := HK.out _ (below_over KO.1 hbB)))
        have hrB : Below wr.heap.size wr wB := below_over hrV KB.1
        have HSC : Hid (sngC p c = ⟨c.super, c.fields, c.meths.filter fun m => !dblB p c m⟩) := rfl
        have hfl : (c.meths.filter fun m => !dblB p c m).length ≤ 1048576 := Nat.le_trans (List.length_filter_le _ _) hsl
        have HFS : Hid (∀ m ∈ c.meths.filter fun m => !dblB p c m, SmallM m) := fun m hm => HSMM.out m (List.mem_filter.1 hm).1
        have HQR : Hid (SM front B wB (.slice (some ⟨gq, 0, none⟩) (c.meths.filter fun m => !dblB p c m).length cq) (c.meths.filter fun m => !dblB p c m)) := hqr
        have HSIB : Hid (SI true B wB (.slice z1 c.fields.length t1) c.fields) := SI.on HSI.out (Keep.of (by rw [hs]; exact hb.trans (hrB.mono hsV)))
        have CB : Hid (Cells wB wr.heap.size [.int .i64 c.super, .slice z1 c.fields.length t1, .slice z2 c.meths.length t2]) := C1.out.on KB.1
        have KBB : Hid (Cells wB kb [v]) := hK.out.on hrB
        have PB : Hid (Cells wB s [.slice (some ⟨b, o, none⟩) p.length cap]) := hP.out.on hrB
        have RB : Hid (Cells wB (s + 1) [.slice none 0 0]) := hR.out.on hrB
        have QB : Hid (KQ QS (kb + 1) T wB v l) := hKQ.out.on hrB
        have BB : Hid (Below s w wB) := hb.trans (hrB.mono hsV)
        obtain ⟨av, dv, rfl⟩ := hKQ.out.form
        have HVO : Hid (Zo (.slice av l.length dv) wB.heap.size wB.heap.size) := fun g hg => .inl (Nat.lt_of_lt_of_le (hKQ.out.1.lt g hg).2 hrB.size)
        have hTB : T ≤ wB.heap.size := Nat.le_trans hT hrB.size
        have hkB : kb < wB.heap.size := Nat.lt_of_lt_of_le hkl hrB.size
        have HLEN : Hid (l.length ≤ 6) := by
          show _ ≤ _
          have h := congrArg List.length hl.out
          rw [List.length_map, List.length_map, List.length_take] at h
          omega
        clear hqr hbB KB KO KA hA1 hA2 hA1' hA2' hO1 hbA hbO hgq hgq2 KD HK HFI PV hwV1 C1 hrV HSMM HSM HSI hKQ hK hP hR hb hT HPI
        generalize (c.meths.filter fun m => !dblB p c m) = F at *
        obtain ⟨x0, _⟩ := CB.out.g0
        obtain ⟨x1, _⟩ := CB.out.g1
        obtain ⟨y0, _⟩ := KBB.out.g0
        go_upto_region 8 with fail
        go_region_law (first
          | (refine stepAppZ _ rfl (.tmp 27) (.tmp 36) 26 rfl (kb + 1) 42 jk (.agg #[.int .i64 0, .slice none 0 0, .slice none 0 0]) 3 56 Try.underlying26 hjk hk0 hk1 hk2 rfl (by decide) (.slice av l.length dv) l.length (flatK l) (by first | rfl | simp [Act.eval, Act.put]) (QD.out.1.alloc _) ⟨wD.heap.size, 0, none⟩ 1 1 [.int .i64 c.super, .slice xf c.fields.length yf, .slice xm F.length ym] (by first | rfl | simp [Act.eval, Act.put]) rfl (cell_three _ _ _ _ _) (by simp [Value.oneCell']) (by have := HLEN.out; unfold maxLen; omega) (by have := HLEN.out; omega) (by have := HZD.out; simp; omega) ?_; intro v3 w3 hown3 hgrow3 hnil3 hat3; have hq3 := (QD.out.on ((Below.refl _ _).alloc (Nat.le_refl _) _)).snoc (x := (⟨c.super, c.fields, F⟩, .slice xf c.fields.length yf, .slice xm F.length ym)) (L := wB.heap.size) (M := wD.heap.size) hkB hTB HZD.out (HZW.out.on ((Below.refl _ _).alloc (Nat.le_refl _) _)) (fun g hg => .inl (by rcases HVO.out g hg with h | h; exact h; exact absurd (Nat.lt_of_lt_of_le (QB.out.1.lt g hg).2 h) (Nat.lt_irrefl _))) hown3 hgrow3 hat3; obtain ⟨a3, d3, he3⟩ := hq3.form; have he4 : v3 = .slice a3 (l.length + 1) d3 := (by simpa using he3); subst he4; clear he3; have hk3 : w3.heap[kb]? = wD.heap[kb]? := (hgrow3.block kb (by have := HZD.out; simp; omega) (fun e => by have := (QD.out.1.lt kb e.symm).1; omega)).trans (((Below.refl wD.heap.size wD).alloc (Nat.le_refl _) _).block kb (by have := HZD.out; omega)); obtain ⟨y3, q3⟩ := (zcells (KBB.out.on BD.out) hk3).g0)
          | (go_simp; go_at_call 20; refine (cloneInts B z1 t1 c.fields hsf _ (SI.on HSIB.out (Keep.of (Below.refl _ _).drew))).mono ?_; rintro e wC ⟨vC, rfl, hgz, hbC⟩; obtain ⟨xf, yf, rfl⟩ := hgz.form; have HGZ : Hid (GZ wB.heap.size wC.heap.size wC (.slice xf c.fields.length yf) c.fields) := hgz; have BC : Hid (Below wB.heap.size wB wC) := below_over (Below.refl _ _).drew hbC; have x0C := (CB.out.on BC.out).g0.1; have y0C := (KBB.out.on BC.out).g0.1; clear hgz hbC; dsimp only)
          | (go_simp; go_at_call 21; refine (copiedMethods B F (some ⟨gq, 0, none⟩) cq hfl HFS.out _ (SM.on HQR.out (Keep.of BC.out))).mono ?_; rintro e wD ⟨vD, rfl, hsm, hnd, hin, hbD⟩; obtain ⟨xm, ym, rfl⟩ := hsm.form; have BD : Hid (Below wB.heap.size wB wD) := below_over BC.out hbD; have HZW : Hid (Zw wB.heap.size wD.heap.size (fun u => QS wB.heap.size wD.heap.size u (⟨c.super, c.fields, F⟩, .slice xf c.fields.length yf, .slice xm F.length ym)) wD) := qs_of BC.out.size (HGZ.out.on hbD) hsm hnd hin hbD.size; have QD : Hid (KQ QS (kb + 1) T wD (.slice av l.length dv) l) := QB.out.on BD.out; have HZD : Hid (wB.heap.size ≤ wD.heap.size) := BD.out.size; have x0D := (CB.out.on BD.out).g0.1; have y0D := (KBB.out.on BD.out).g0.1; have y0E := ((KBB.out.on BD.out).alloc (.cells #[.int .i64 c.super, .slice xf c.fields.length yf, .slice xm F.length ym] 42)).g0.1; clear hsm hnd hin hbD; dsimp only))
        all_goals
          have hsame : ∀ k, k < kb + 1 → w3.heap[k]? = wD.heap[k]? := fun k hk => (hgrow3.block k (by have := HZD.out; simp; omega) (fun e => by have := (QD.out.1.lt k e.symm).1; omega)).trans (((Below.refl wD.heap.size wD).alloc (Nat.le_refl _) _).block k (by have := HZD.out; omega))
          have HKX : Hid (Cells (w3.setCell ⟨kb, 0, none⟩ (.slice a3 (l.length + 1) d3)) kb [.slice a3 (l.length + 1) d3]) := (zcells (KBB.out.on BD.out) hk3).s0 _
          have HPX : Hid (Cells (w3.setCell ⟨kb, 0, none⟩ (.slice a3 (l.length + 1) d3)) s [.slice (some ⟨b, o, none⟩) p.length cap]) := (zcells (PB.out.on BD.out) (hsame s (by omega))).far _ _ (by show kb ≠ s; omega)
          have HRX : Hid (Cells (w3.setCell ⟨kb, 0, none⟩ (.slice a3 (l.length + 1) d3)) (s + 1) [.slice none 0 0]) := (zcells (RB.out.on BD.out) (hsame (s + 1) (by omega))).far _ _ (by show kb ≠ s + 1; omega)
          have HQX : Hid (KQ QS (kb + 1) wD.heap.size (w3.setCell ⟨kb, 0, none⟩ (.slice a3 (l.length + 1) d3)) (.slice a3 (l.length + 1) d3) (l ++ [(⟨c.super, c.fields, F⟩, .slice xf c.fields.length yf, .slice xm F.length ym)])) := hq3.set (b := kb) (by omega) _
          have hzw : wD.heap.size ≤ w3.heap.size := by have := hgrow3.size; simp at this; omega
          have HTX : wD.heap.size ≤ (w3.setCell ⟨kb, 0, none⟩ (.slice a3 (l.length + 1) d3)).heap.size := by simpa using hzw
          have HBX : Hid (Below s w (w3.setCell ⟨kb, 0, none⟩ (.slice a3 (l.length + 1) d3))) := ((((BB.out.trans (BD.out.mono (by omega))).alloc (by have := HZD.out; omega) _).grown hgrow3 (by have := HZD.out; simp; omega) (fun g hg => by have := (QD.out.1.lt g hg).1; omega))).setCell (p := ⟨kb, 0, none⟩) (by show s ≤ kb; omega) _
          have HLX : Hid ((l ++ [((⟨c.super, c.fields, F⟩ : Cls), Value.slice xf c.fields.length yf, Value.slice xm F.length ym)]).map (·.1) = (p.take (i + 1)).map (sngC p)) := by show _ = _; rw [List.map_append, hl.out, HL.out, HSC.out]; rfl
          clear hsame hq3 hk3 hown3 hgrow3 hnil3 hat3
          go_wp2
          go_roundw
          case rel => exact ⟨i + 1, _, _, _, by omega, by go_num, HLX.out, HQX.out, HTX, HKX.out, HPX.out, HRX.out, HBX.out⟩
          case measure => simp [intOf]; omega
      · have hii : ¬ (i : Int) < (p.length : Int) := by omega
        have hl' : l.map (·.1) = sngP p := by rw [hl.out, List.take_of_length_le (by omega), HSG.out]
        obtain ⟨av, dv, rfl⟩ := hKQ.out.form
        have hND := hKQ.out.nodup
        have hSK := hKQ.out.sk (fun L M u x h => h.1)
        rw [hl'] at hND hSK
        have HKX : SK front (kb + 1) wr (.slice av l.length dv) (sngP p) := hSK
        have hkeep : Keep (kb + 1) wr (wr.setCell ⟨s + 1, 0, none⟩ (.slice av l.length dv)) := Keep.set wr (p := ⟨s + 1, 0, none⟩) (by show s + 1 < kb + 1; omega) _
        have HSX : Hid (SK front s (wr.setCell ⟨s + 1, 0, none⟩ (.slice av l.length dv)) (.slice av l.length dv) (sngP p)) := (SK.on HKX hkeep).weak (by omega)
        have HNX : Hid ((adP (wr.setCell ⟨s + 1, 0, none⟩ (.slice av l.length dv)) (.slice av l.length dv) (sngP p)).Nodup) := by
          show List.Nodup _
          rw [adP_keep HKX hkeep]
          exact hND
        obtain ⟨v0, _⟩ := hK.out.g0
        obtain ⟨r0, q0⟩ := hR.out.g0
        have e0 := (hR.out.s0 (.slice av l.length dv)).g0.1
        have HBX : Hid (Below s w (wr.setCell ⟨s + 1, 0, none⟩ (.slice av l.length dv))) := hb.setCell (p := ⟨s + 1, 0, none⟩) (by show s ≤ s + 1; omega) _
        clear hl' hND hSK HKX hkeep
        go_wp2
        refine bodyPost_ret (v := .agg #[.slice av l.length dv]) (by simp [results, Try.results7, go_sem, e0]) rfl ?_
        first | exact ⟨_, rfl, HSX.out, HNX.out, HBX.out⟩ | exact ⟨rfl, HSX.out, HNX.out, HBX.out⟩
end Pg
end Go.Proofs.Ytjchmpdobghhnaa
