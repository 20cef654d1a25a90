/- The contract of the specification's Single. -/
import Derived.Test.YtdomclicgajihaaJZc0
import Derived.Test.YtdomclicgajihaaJZb3
import Derived.Test.YtdomclicgajihaaJZc4
namespace Go.Proofs.Ytdomclicgajihaa
namespace Pg
open Go.ChangeShapes Go.WideShapes Go.ChangeAt Go.RowKit St

theorem mem_dblT {p : Prg} {n : Nat} {x : Int} : x ∈ dblT p n ↔ ∃ j d m, j < n ∧ p[j]? = some d ∧ m ∈ d.meths ∧ dblB p d m = true ∧ x = (j : Int) * 20 + m.name := by
  unfold dblT
  rw [List.mem_flatten]
  constructor
  · rintro ⟨l, hl, hx⟩
    obtain ⟨j, hj, rfl⟩ := List.mem_map.1 hl
    cases hd : p[j]? with
    | none => rw [hd] at hx; simp at hx
    | some d =>
      rw [hd] at hx
      simp only [dblC] at hx
      obtain ⟨m, hm, rfl⟩ := List.mem_map.1 hx
      obtain ⟨h1, h2⟩ := List.mem_filter.1 hm
      exact ⟨j, d, m, List.mem_range.1 hj, hd, h1, h2, rfl⟩
  · rintro ⟨j, d, m, hj, hd, hm, hb, rfl⟩
    refine ⟨dblC p j d, List.mem_map.2 ⟨j, List.mem_range.2 hj, by rw [hd]⟩, ?_⟩
    exact List.mem_map.2 ⟨m, List.mem_filter.2 ⟨hm, hb⟩, rfl⟩
theorem wo_sng {p : Prg} (hok : okP p = true) {i : Nat} {c : Cls} (hc : p[i]? = some c) : wo (dblT p p.length) i c = sngC p c := by
  unfold wo sngC
  congr 1
  refine List.filter_congr fun m hm => ?_
  congr 1
  have hn := name_bd hok hc hm
  have hi := (List.getElem?_eq_some_iff.1 hc).1
  cases hb : dblB p c m
  · refine decide_eq_false fun hx => ?_
    obtain ⟨j, d, m', hj, hd, hm', hb', he⟩ := mem_dblT.1 hx
    have hn' := name_bd hok hd hm'
    have hij : j = i := by omega
    subst hij
    rw [hc] at hd
    injection hd with hd
    subst hd
    have hnm : m'.name = m.name := by omega
    have h1 := own_self hok hc hm
    have h2 := own_self hok hc hm'
    rw [hnm, h1] at h2
    injection h2 with h2
    rw [← h2, hb] at hb'
    simp at hb'
  · exact decide_eq_true (mem_dblT.2 ⟨i, c, m, hi, hc, hm, hb, rfl⟩)
theorem woP_sng {p : Prg} (hok : okP p = true) : woP (dblT p p.length) p = sngP p := by
  unfold woP sngP
  rw [if_pos hok]
  refine List.ext_getElem? fun j => ?_
  rw [List.getElem?_mapIdx, List.getElem?_map]
  cases hc : p[j]? with
  | none => rfl
  | some c => simp [wo_sng hok hc]
theorem sk_none (B : Nat) (w : World) : SK front B w (.slice none 0 0) [] := ⟨none, 0, rfl, fun _ _ => rfl, fun h => by simp at h⟩

theorem copyLaw : CopyLaw := fun B a cap p hsp w hp => specCopy B a cap p hsp w hp
set_option maxRecDepth 100000 in
set_option maxHeartbeats 4000000 in
theorem specSingle (B : Nat) (p : Prg) (a : Option Addr) (cap : Nat) (hsp : SmallP p) (w : World) (hp : SK front B w (.slice a p.length cap) p) :
    Calls Try.prog 6 #[.agg #[.slice a p.length cap]] w fun e w' => ∃ v, e = .returned (.agg #[v]) ∧ SK front w.heap.size w' v (sngP p) ∧ Below w.heap.size w w' := by
  have HSP : Hid (SmallP p) := hsp
  have HP : Hid (SK front B w (.slice a p.length cap) p) := hp
  clear hp hsp
  obtain ⟨s, hs⟩ : ∃ s, w.heap.size = s := ⟨_, rfl⟩
  obtain ⟨W, hW⟩ : ∃ W, W = (w.alloc (.cells #[.slice a p.length cap] 28)).alloc (.cells #[.slice none 0 0] 28) := ⟨_, rfl⟩
  have hwW : Below w.heap.size w W := by rw [hW]; exact ((Below.refl _ _).alloc (Nat.le_refl _) _).alloc (by simp) _
  have P0 : Hid (Cells W w.heap.size [.slice a p.length cap]) := by show Cells _ _ _; rw [hW]; exact (Cells.new w _ rfl _ _).alloc _
  have R0 : Hid (Cells W (w.heap.size + 1) [.slice none 0 0]) := by show Cells _ _ _; rw [hW]; exact Cells.new (w.alloc _) _ (by simp) _ _
  rw [hs] at P0 R0
  rw [hs]
  go_enter Try.func6, Try.ntmps6
  go_wp2_with fail
  try rw [hs]
  rw [← hW]
  clear hW
  refine (specProgramOk B p a cap HSP.out _ (SK.on HP.out (Keep.of hwW))).mono ?_
  rintro e w1 ⟨rfl, hb1⟩
  have hw1 : Below s w w1 := by rw [← hs]; exact below_over hwW hb1
  have P1 : Hid (Cells w1 s [.slice a p.length cap]) := P0.out.on hb1
  have R1 : Hid (Cells w1 (s + 1) [.slice none 0 0]) := R0.out.on hb1
  clear hb1 P0 R0 hwW
  cases hok : okP p
  · obtain ⟨r0, q0⟩ := R1.out.g0
    have e0 := (R1.out.s0 (.slice none 0 0)).g0.1
    have HS : Hid (sngP p = []) := by show _ = _; unfold sngP; rw [hok]; rfl
    have HB : Hid (Below s w (w1.setCell ⟨s + 1, 0, none⟩ (.slice none 0 0))) := hw1.setCell (p := ⟨s + 1, 0, none⟩) (by show s ≤ s + 1; omega) _
    clear hok
    go_wp2
    refine bodyPost_ret (v := .agg #[.slice none 0 0]) (by simp [results, Try.results6, go_sem, e0]) rfl ?_
    first | exact ⟨_, rfl, by rw [HS.out]; exact sk_none _ _, HB.out⟩ | exact ⟨rfl, by rw [HS.out]; exact sk_none _ _, HB.out⟩
  · have HOK : Hid (okP p = true) := hok
    have hn := okP_len hok
    have hn1 : 0 < p.length := hn.1
    have hn6 : p.length ≤ 6 := hn.2
    have HNM : Hid (∀ c ∈ p, ∀ m ∈ c.meths, 0 ≤ m.name ∧ m.name ≤ 19) := fun c hc m hm => by
      obtain ⟨i, hi, rfl⟩ := List.getElem_of_mem hc
      exact name_bd HOK.out (List.getElem?_eq_getElem hi) hm
    have HTL : Hid ((dblT p p.length).length ≤ 1048576) := by show _ ≤ _; have := dblT_len HOK.out p.length (Nat.le_refl _); omega
    clear hok hn
    have HK : Hid (∀ X, Below w1.heap.size w1 X → X.cell? ⟨s, 0, none⟩ = some (.slice a p.length cap)) := fun X hX => (P1.out.on hX).g0.1
    have BD : Hid (Below w1.heap.size w1 w1.drew) := (Below.refl w1.heap.size w1).drew
    have KD := HK.out _ BD.out
    have HPX : Hid (∀ X, Below w1.heap.size w1 X → SK front B X (.slice a p.length cap) p) := fun X hX => SK.on HP.out (Keep.of (by rw [hs]; exact hw1.trans (hX.mono (by have := hw1.size; omega))))
    go_upto_region 3 with fail
    go_region_held3 (fun X => X.cell? ⟨s, 0, none⟩ = some (.slice a p.length cap))
      (first | exact KD | assumption | exact KC.out)
      (first
        | (go_at_call 20; refine (l13Doubles B p a cap HOK.out HSP.out _ (HPX.out _ BD.out)).mono ?_; rintro e wA ⟨vA, rfl, hgA, hbA⟩; obtain ⟨gA, cA, rfl, _, _, hirA, _⟩ := hgA.gint; have BA : Hid (Below w1.heap.size w1 wA) := below_over BD.out hbA; have KA := HK.out _ BA.out)
        | (go_at_call 19; refine (specWithout copyLaw B a cap p HSP.out hn6 hn1 HNM.out (dblT p p.length) HTL.out gA cA _ (HPX.out _ BA.out) hirA).mono ?_; rintro e wB ⟨vB, rfl, hskB, hbB⟩; rw [woP_sng HOK.out] at hskB; obtain ⟨aB, dB, rfl⟩ := hskB.form; have HSB : Hid (SK front wA.heap.size wB (.slice aB (sngP p).length dB) (sngP p)) := hskB; have BB : Hid (Below w1.heap.size w1 wB) := below_over BA.out hbB; have KB := HK.out _ BB.out; obtain ⟨r0, q0⟩ := (R1.out.on BB.out).g0; have KC : Hid ((wB.setCell ⟨s + 1, 0, none⟩ (.slice aB (sngP p).length dB)).cell? ⟨s, 0, none⟩ = some (.slice a p.length cap)) := (World.cell?_setCell_other _ _ _ _ (by intro h; injection h; omega)).trans KB))
    have hzA : w1.heap.size ≤ wA.heap.size := BA.out.size
    have hs1 : s + 1 < w1.heap.size := St.cell_lt R1.out.g0.1
    have e0 := ((R1.out.on BB.out).s0 (.slice aB (sngP p).length dB)).g0.1
    have HSX : Hid (SK front s (wB.setCell ⟨s + 1, 0, none⟩ (.slice aB (sngP p).length dB)) (.slice aB (sngP p).length dB) (sngP p)) := (SK.on HSB.out (Keep.set wB (p := ⟨s + 1, 0, none⟩) (by show s + 1 < wA.heap.size; omega) _)).weak (by omega)
    have HB : Hid (Below s w (wB.setCell ⟨s + 1, 0, none⟩ (.slice aB (sngP p).length dB))) := (hw1.trans (BB.out.mono (by omega))).setCell (p := ⟨s + 1, 0, none⟩) (by show s ≤ s + 1; omega) _
    clear hskB hbB r0 q0
    go_wp2
    refine bodyPost_ret (v := .agg #[.slice aB (sngP p).length dB]) (by simp [results, Try.results6, go_sem, e0]) rfl ?_
    first | exact ⟨_, rfl, HSX.out, HB.out⟩ | exact ⟨rfl, HSX.out, HB.out⟩
end Pg
end Go.Proofs.Ytdomclicgajihaa

/- Programs that a call makes: their numbers lie at places of their own. -/
namespace Go.Proofs.Ytdomclicgajihaa
namespace Pg
open Go.ChangeShapes Go.WideShapes Go.ChangeAt Go.RowKit St

/-- The addresses of what a class's cells lead to. -/
def adX (w : World) (x : Cls × Value × Value) : List Addr := adN x.2.1 x.1.fields.length ++ adMs w x.2.2 x.1.meths
def QS (L M : Nat) (u : World) (x : Cls × Value × Value) : Prop := CV front L u x.2.1 x.2.2 x.1 ∧ (adX u x).Nodup ∧ ∀ p ∈ adX u x, L ≤ p.block ∧ p.block < M
theorem adMs_keep {B : Nat} {u w : World} {v : Value} {ms : List Meth} (h : SM front B u v ms) (hk : Keep B u w) : adMs w v ms = adMs u v ms := by
  obtain ⟨a, cap, hv, _, hx⟩ := h
  subst hv
  match a with
  | none => rfl
  | some ⟨b, o, some sp⟩ => rfl
  | some ⟨b, o, none⟩ =>
    show adMl w b o ms = adMl u b o ms
    refine adMl_congr _ _ (fun j hj => ?_)
    obtain ⟨b', o', he, hB, ⟨hl, _⟩, he2⟩ := hx (by omega)
    injection he with he
    injection he with e1 e2
    subst e1 e2
    unfold cellD
    rw [hk.cell hB hl, hk.cell hB hl]
    exact ⟨rfl, rfl⟩
theorem qs_of {L M1 : Nat} {w : World} {c : Cls} {vf vm : Value} (hL : L ≤ M1) (h1 : GZ L M1 w vf c.fields) (h2 : SM front M1 w vm c.meths) (h3 : (adMs w vm c.meths).Nodup) (h4 : ∀ p ∈ adMs w vm c.meths, M1 ≤ p.block ∧ p.block < w.heap.size) (hM : M1 ≤ w.heap.size) :
    Zw L w.heap.size (fun u => QS L w.heap.size u (c, vf, vm)) w := by
  refine ⟨Nat.le_refl _, fun u hs hk => ?_⟩
  have hkk : Keep L w u := ⟨hs, fun k a b => hk k a b⟩
  have e : adMs u vm c.meths = adMs w vm c.meths := adMs_keep (h2.weak hL) hkk
  obtain ⟨n1, b1⟩ := gz_ad h1
  refine ⟨⟨(h1.keep hkk (Nat.le_refl _)).si, SM.on (h2.weak hL) hkk⟩, ?_, fun p hp => ?_⟩
  · unfold adX
    dsimp only
    rw [e]
    refine List.nodup_append.2 ⟨n1, h3, fun a ha b hb e => ?_⟩
    subst e
    have := b1 a ha
    have := h4 a hb
    omega
  · unfold adX at hp
    dsimp only at hp
    rw [e] at hp
    rcases List.mem_append.1 hp with k | k
    · have := b1 p k; omega
    · have := h4 p k; omega
/-- Classes that were laid one behind the other own their memory. -/
theorem KQ.nodup {B T : Nat} {w : World} {v : Value} {l : List (Cls × Value × Value)} (h : KQ QS B T w v l) : (adP w v (l.map (·.1))).Nodup := by
  obtain ⟨hown, W, hd⟩ := h
  have hown' := hown
  obtain ⟨h0, ⟨hv, hn⟩ | ⟨g, cap, cur, hv, hB, hblk, hle, hmx, hsz, htk⟩⟩ := hown
  · rw [hv]; exact List.Pairwise.nil
  · rw [hv]
    show (adCl w g 0 (l.map (·.1))).Nodup
    have hcell : ∀ i u, (flatK l)[i]? = some u → w.cell? ⟨g, i, none⟩ = some u := fun i u hu => by
      have := World.ownsRow.cells hown' (g := g) (by rw [hv]; rfl) i u hu
      rwa [Go.WideShapes.add_plain, Nat.zero_add] at this
    have key : ∀ k, k ≤ l.length → (adCl w g 0 ((l.map (·.1)).take k)).Nodup ∧ ∀ p ∈ adCl w g 0 ((l.map (·.1)).take k), (p.block = g ∧ p.off < k * 3) ∨ (p.block ≠ g ∧ ∃ i, i < k ∧ (W i).1 ≤ p.block ∧ p.block < (W i).2) := by
      intro k
      induction k with
      | zero => intro _; exact ⟨by simp [adCl], fun p hp => by simp [adCl] at hp⟩
      | succ k ih =>
        intro hk
        obtain ⟨ih1, ih2⟩ := ih (by omega)
        have hkl : k < (l.map (·.1)).length := by rw [List.length_map]; omega
        obtain ⟨x, hx⟩ : ∃ x, l[k]? = some x := ⟨_, List.getElem?_eq_getElem (by omega)⟩
        have hxe : (l.map (·.1))[k] = x.1 := by
          have := (List.getElem?_eq_some_iff.1 hx).2
          rw [List.getElem_map, this]
        obtain ⟨k1, k2, k3, k4, k5, k6⟩ := hd k x hx
        obtain ⟨_, q2, q3⟩ := k4.now
        have ho := k5 g (by rw [hv]; rfl)
        obtain ⟨a0, a1, a2⟩ := flatK_at l k x hx
        have e1 : cellD w ⟨g, 0 + k * 3 + 1, none⟩ = x.2.1 := by unfold cellD; rw [show 0 + k * 3 + 1 = k * 3 + 1 by omega, hcell _ _ a1]; rfl
        have e2 : cellD w ⟨g, 0 + k * 3 + 2, none⟩ = x.2.2 := by unfold cellD; rw [show 0 + k * 3 + 2 = k * 3 + 2 by omega, hcell _ _ a2]; rfl
        have e3 : adC w g (0 + k * 3) (l.map (·.1))[k] = ⟨g, 0 + k * 3, none⟩ :: adX w x := by unfold adC adX; rw [e1, e2, hxe]
        rw [adCl_take _ _ _ hkl, e3]
        refine ⟨List.nodup_append.2 ⟨ih1, List.nodup_cons.2 ⟨fun hp => ?_, q2⟩, fun a ha b hb e => ?_⟩, fun p hp => ?_⟩
        · have := q3 _ hp; simp at this; omega
        · subst e
          rcases List.mem_cons.1 hb with hb | hb
          · subst hb
            rcases ih2 _ ha with h | h
            · simp at h <;> omega
            · exact h.1 rfl
          · have hb' := q3 a hb
            rcases ih2 _ ha with h | ⟨_, i, hi, h1, h2⟩
            · omega
            · have := k6 i hi; omega
        · rcases List.mem_append.1 hp with hp | hp
          · rcases ih2 p hp with h | ⟨h1, i, hi, h2⟩
            · exact .inl ⟨h.1, by omega⟩
            · exact .inr ⟨h1, i, by omega, h2⟩
          · rcases List.mem_cons.1 hp with hp | hp
            · subst hp; exact .inl ⟨rfl, by show 0 + k * 3 < _; omega⟩
            · have := q3 p hp; exact .inr ⟨by omega, k, by omega, this⟩
    have := (key l.length (Nat.le_refl _)).1
    rwa [List.take_of_length_le (by rw [List.length_map]; omega)] at this
end Pg
end Go.Proofs.Ytdomclicgajihaa

/- Programs of which each class keeps only some methods. -/
namespace Go.Proofs.Ytdomclicgajihaa
namespace Pg
open Go.ChangeShapes Go.WideShapes Go.ChangeAt Go.RowKit St

theorem adCl_congr {u w : World} {g : Nat} : ∀ (cs : List Cls) (o : Nat), (∀ j x, cs[j]? = some x → adC w g (o + j * 3) x = adC u g (o + j * 3) x) → adCl w g o cs = adCl u g o cs
  | [], _, _ => rfl
  | c :: cs, o, h => by
    have h0 := h 0 c rfl
    simp only [Nat.zero_mul, Nat.add_zero] at h0
    have ih := adCl_congr (u := u) (w := w) (g := g) cs (o + 3) (fun j x hj => by
      have h1 := h (j + 1) x (by simpa using hj)
      have e : o + (j + 1) * 3 = o + 3 + j * 3 := by omega
      exact e ▸ h1)
    simp only [adCl]
    rw [h0, ih]
theorem adP_keep {B : Nat} {u w : World} {v : Value} {cs : Prg} (h : SK front B u v cs) (hk : Keep B u w) : adP w v cs = adP u v cs := by
  obtain ⟨a, cap, hv, _, hx⟩ := h
  subst hv
  match a with
  | none => rfl
  | some ⟨b, o, some sp⟩ => rfl
  | some ⟨b, o, none⟩ =>
    show adCl w b o cs = adCl u b o cs
    refine adCl_congr _ _ (fun j x hj => ?_)
    obtain ⟨b', o', he, hB, ⟨hl, _⟩, he2⟩ := hx (by have := (List.getElem?_eq_some_iff.1 hj).1; omega)
    injection he with he
    injection he with e1 e2
    subst e1 e2
    obtain ⟨vf, vm, c0, c1, c2, hcv⟩ := he2 j x hj
    have k1 := (hk.cell hB hl).trans c1
    have k2 := (hk.cell hB hl).trans c2
    unfold adC cellD
    rw [k1, k2, c1, c2]
    show _ :: (_ ++ adMs w vm x.meths) = _ :: (_ ++ adMs u vm x.meths)
    rw [adMs_keep hcv.2 hk]
/-- A program of which each class has only the methods that are wanted of it. -/
def keepC (G : Nat → Meth → Bool) (i : Nat) (c : Cls) : Cls := { c with meths := c.meths.filter (G i) }
def keepP (G : Nat → Meth → Bool) (p : Prg) : Prg := p.mapIdx fun i c => keepC G i c
theorem keepP_len (G : Nat → Meth → Bool) (p : Prg) : (keepP G p).length = p.length := by unfold keepP; rw [List.length_mapIdx]
theorem keepP_take (G : Nat → Meth → Bool) (p : Prg) {i : Nat} (hi : i < p.length) : (keepP G p).take (i + 1) = (keepP G p).take i ++ [keepC G i p[i]] := by
  rw [List.take_succ_eq_append_getElem (by rw [keepP_len]; exact hi)]
  congr 2
  unfold keepP
  rw [List.getElem_mapIdx]
theorem keepP_congr {G H : Nat → Meth → Bool} {p : Prg} (h : ∀ i c m, p[i]? = some c → m ∈ c.meths → G i m = H i m) : keepP G p = keepP H p := by
  unfold keepP
  refine List.ext_getElem? (fun i => ?_)
  rw [List.getElem?_mapIdx, List.getElem?_mapIdx]
  cases hc : p[i]? with
  | none => rfl
  | some c =>
    show some (keepC G i c) = some (keepC H i c)
    unfold keepC
    rw [List.filter_congr (fun m hm => h i c m hc hm)]
theorem woP_keep (L : List Int) (p : Prg) : woP L p = keepP (fun i m => !decide ((i : Int) * 20 + m.name ∈ L)) p := rfl
end Pg
end Go.Proofs.Ytdomclicgajihaa
