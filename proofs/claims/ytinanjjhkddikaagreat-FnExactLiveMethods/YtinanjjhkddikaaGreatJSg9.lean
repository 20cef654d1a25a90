/- Contracts of both sides' Doubles. -/
import Derived.Test.YtinanjjhkddikaaGreatJDb3
import Derived.Test.YtinanjjhkddikaaGreatJSg8
namespace Go.Proofs.YtinanjjhkddikaaGreat
namespace Pg
open Go.ChangeShapes Go.WideShapes Go.ChangeAt Go.RowKit St

/-- A row of methods of which the cells alone are told. -/
def QR (g : Nat) (fl : List Meth) (u : World) : Prop := ∀ j m, fl[j]? = some m → ∃ a1 n1 c1 a2 n2 c2, u.cell? ⟨g, j * 4, none⟩ = some (.int .i64 m.name) ∧ u.cell? ⟨g, j * 4 + 1, none⟩ = some (.slice a1 n1 c1) ∧ u.cell? ⟨g, j * 4 + 2, none⟩ = some (.int .i64 m.gives) ∧ u.cell? ⟨g, j * 4 + 3, none⟩ = some (.slice a2 n2 c2)
theorem QR.blk {g : Nat} {fl : List Meth} {u w : World} (h : QR g fl u) (hb : w.heap[g]? = u.heap[g]?) : QR g fl w := fun j m hm => by
  obtain ⟨a1, n1, c1, a2, n2, c2, h0, h1, h2, h3⟩ := h j m hm
  exact ⟨a1, n1, c1, a2, n2, c2, (World.cell?_of_block (w := u) hb).trans h0, (World.cell?_of_block (w := u) hb).trans h1, (World.cell?_of_block (w := u) hb).trans h2, (World.cell?_of_block (w := u) hb).trans h3⟩
theorem QR.of {B g c : Nat} {fl : List Meth} {u : World} (h : SM front B u (.slice (some ⟨g, 0, none⟩) fl.length c) fl) : QR g fl u := fun j m hm => by
  obtain ⟨hj, rfl⟩ := List.getElem?_eq_some_iff.1 hm
  obtain ⟨b, o, he, _, va, vc, h0, h1, h2, h3, hv⟩ := h.get hj
  injection he with he
  injection he with e1 e2
  subst e1 e2
  obtain ⟨x1, y1, rfl⟩ := hv.1.form
  obtain ⟨x2, y2, rfl⟩ := front.form hv.2
  simp only [Nat.zero_add] at h0 h1 h2 h3
  exact ⟨_, _, _, _, _, _, h0, h1, h2, h3⟩
theorem dbl_take {p : Prg} {i : Nat} {c : Cls} (hc : p[i]? = some c) : dblT p (i + 1) = dblT p i ++ (c.meths.filter (dblB p c)).map fun m => (i : Int) * 20 + m.name := dblT_succ hc
theorem map_take {α β : Type} (f : α → β) (l : List α) {k : Nat} (hk : k < l.length) : (l.take (k + 1)).map f = (l.take k).map f ++ [f l[k]] := by
  rw [List.take_succ_eq_append_getElem hk, List.map_append]
  rfl
/-- In a right program the names of a class's methods rise, so each is found by its name. -/
theorem names_lt {p : Prg} (hok : okP p = true) {i : Nat} {c : Cls} (hc : p[i]? = some c) {k : Nat} {x y : Meth} (hx : c.meths[k]? = some x) (hy : c.meths[k + 1]? = some y) : x.name < y.name := by
  obtain ⟨hi, _⟩ := List.getElem?_eq_some_iff.1 hc
  have h1 := okP_at hok hi
  rw [okAt_of hc] at h1
  have h2 := okC_meth h1 (List.getElem?_eq_some_iff.1 hy).1
  unfold okK at h2
  rw [hy] at h2
  simp only [Bool.and_eq_true] at h2
  have h3 := h2.1.2
  rw [hx] at h3
  simpa using h3
theorem names_far {p : Prg} (hok : okP p = true) {i : Nat} {c : Cls} (hc : p[i]? = some c) : ∀ (d k : Nat) (x y : Meth), c.meths[k]? = some x → c.meths[k + 1 + d]? = some y → x.name < y.name
  | 0, k, x, y, hx, hy => names_lt hok hc hx hy
  | d + 1, k, x, y, hx, hy => by
    have hl := (List.getElem?_eq_some_iff.1 hy).1
    have h1 := names_far hok hc d k x _ hx (List.getElem?_eq_getElem (show k + 1 + d < c.meths.length by omega))
    have h2 := names_lt hok hc (List.getElem?_eq_getElem (show k + 1 + d < c.meths.length by omega)) hy
    omega
theorem own_self {p : Prg} (hok : okP p = true) {i : Nat} {c : Cls} (hc : p[i]? = some c) {m : Meth} (hm : m ∈ c.meths) : ownF c m.name = some m := by
  obtain ⟨k, hk, rfl⟩ := List.getElem_of_mem hm
  refine find_at (k := k) (fun j hj y hy => ?_) (List.getElem?_eq_getElem hk) rfl
  have := names_far hok hc (k - j - 1) j y _ hy (by rw [show j + 1 + (k - j - 1) = k by omega]; exact List.getElem?_eq_getElem hk)
  omega
theorem dblN_of {p : Prg} (hok : okP p = true) {i : Nat} {c : Cls} (hc : p[i]? = some c) {m : Meth} (hm : m ∈ c.meths) : dblN p c m.name = dblB p c m := by
  unfold dblN
  rw [own_self hok hc hm]
set_option maxHeartbeats 400000 in
theorem numberOf (a b : Int) (ha : 0 ≤ a) (ha6 : a ≤ 6) (hb : 0 ≤ b) (hb19 : b ≤ 19) (w : World) :
    Calls Tryz.prog 33 #[.int .i64 a, .int .i64 b] w fun e w' => e = .returned (.int .i64 (a * 20 + b)) ∧ w' = w := by
  go_enter Tryz.func33, Tryz.ntmps33
  go_wp2
  go_ret
  exact ⟨rfl, rfl⟩
end Pg
end Go.Proofs.YtinanjjhkddikaaGreat

/- The program's LiveMethods. -/
namespace Go.Proofs.YtinanjjhkddikaaGreat
namespace Pg
open Go.ChangeShapes Go.WideShapes Go.ChangeAt Go.RowKit St Wd
/-- The numbers of the found methods ahead of method k of class i. -/
def Dn (p : Prg) (F : List Fd) (i k : Nat) (x : Int) : Prop := ∃ (j : Nat) (d : Cls) (q : Nat) (m : Meth), p[j]? = some d ∧ d.meths[q]? = some m ∧ (j < i ∨ (j = i ∧ q < k)) ∧ ((1, (j : Int), m.name) : Fd) ∈ F ∧ x = (j : Int) * 20 + m.name
structure LvI (p : Prg) (F : List Fd) (i k : Nat) (l : List Int) : Prop where
  rise : Rise l
  mem : ∀ x, x ∈ l ↔ Dn p F i k x
theorem LvI.start (p : Prg) (F : List Fd) : LvI p F 0 0 [] := ⟨by simp, fun x => ⟨fun h => by simp at h, fun ⟨_, _, _, _, _, _, h, _⟩ => by omega⟩⟩
theorem LvI.cls {p : Prg} {F : List Fd} {i : Nat} {c : Cls} {l : List Int} (hc : p[i]? = some c) (h : LvI p F i c.meths.length l) : LvI p F (i + 1) 0 l := by
  refine ⟨h.rise, fun x => (h.mem x).trans ⟨?_, ?_⟩⟩
  · rintro ⟨j, d, q, m, h1, h2, h3, h4, h5⟩
    exact ⟨j, d, q, m, h1, h2, .inl (by omega), h4, h5⟩
  · rintro ⟨j, d, q, m, h1, h2, h3, h4, h5⟩
    refine ⟨j, d, q, m, h1, h2, ?_, h4, h5⟩
    by_cases e : j = i
    · subst e
      rw [hc] at h1
      injection h1 with h1
      subst h1
      exact .inr ⟨rfl, (List.getElem?_eq_some_iff.1 h2).1⟩
    · exact .inl (by omega)
theorem LvI.skip {p : Prg} {F : List Fd} {i k : Nat} {c : Cls} {m : Meth} {l : List Int} (hc : p[i]? = some c) (hm : c.meths[k]? = some m) (hn : ((1, (i : Int), m.name) : Fd) ∉ F) (h : LvI p F i k l) : LvI p F i (k + 1) l := by
  refine ⟨h.rise, fun x => (h.mem x).trans ⟨?_, ?_⟩⟩
  · rintro ⟨j, d, q, m', h1, h2, h3, h4, h5⟩
    exact ⟨j, d, q, m', h1, h2, by omega, h4, h5⟩
  · rintro ⟨j, d, q, m', h1, h2, h3, h4, h5⟩
    refine ⟨j, d, q, m', h1, h2, ?_, h4, h5⟩
    rcases h3 with h3 | ⟨rfl, h3⟩
    · exact .inl h3
    · by_cases e : q = k
      · subst e
        rw [hc] at h1
        injection h1 with h1
        subst h1
        rw [hm] at h2
        injection h2 with h2
        subst h2
        exact absurd h4 hn
      · exact .inr ⟨rfl, by omega⟩
theorem LvI.add {p : Prg} (hok : okP p = true) {F : List Fd} {i k : Nat} {c : Cls} {m : Meth} {l : List Int} (hc : p[i]? = some c) (hm : c.meths[k]? = some m) (hn : ((1, (i : Int), m.name) : Fd) ∈ F) (h : LvI p F i k l) : LvI p F i (k + 1) (l ++ [(i : Int) * 20 + m.name]) := by
  have hb := name_bd hok hc (List.mem_of_getElem? hm)
  refine ⟨?_, fun x => ?_⟩
  · refine List.pairwise_append.2 ⟨h.rise, by simp, fun x hx y hy => ?_⟩
    obtain ⟨j, d, q, m', h1, h2, h3, h4, rfl⟩ := (h.mem x).1 hx
    rw [List.mem_singleton.1 hy]
    have hb' := name_bd hok h1 (List.mem_of_getElem? h2)
    rcases h3 with h3 | ⟨rfl, h3⟩
    · omega
    · rw [hc] at h1
      injection h1 with h1
      subst h1
      have := names_far hok hc (k - q - 1) q m' m h2 (by rw [show q + 1 + (k - q - 1) = k by omega]; exact hm)
      omega
  · rw [List.mem_append, h.mem x]
    constructor
    · rintro (⟨j, d, q, m', h1, h2, h3, h4, h5⟩ | hx)
      · exact ⟨j, d, q, m', h1, h2, by omega, h4, h5⟩
      · exact ⟨i, c, k, m, hc, hm, .inr ⟨rfl, by omega⟩, hn, List.mem_singleton.1 hx⟩
    · rintro ⟨j, d, q, m', h1, h2, h3, h4, h5⟩
      rcases h3 with h3 | ⟨rfl, h3⟩
      · exact .inl ⟨j, d, q, m', h1, h2, .inl h3, h4, h5⟩
      · by_cases e : q = k
        · subst e
          rw [hc] at h1
          injection h1 with h1
          subst h1
          rw [hm] at h2
          injection h2 with h2
          subst h2
          exact .inr (by simp [h5])
        · exact .inl ⟨j, d, q, m', h1, h2, .inr ⟨rfl, by omega⟩, h4, h5⟩
theorem LvI.len {p : Prg} (hok : okP p = true) {F : List Fd} {i k : Nat} {l : List Int} (h : LvI p F i k l) : l.length ≤ 120 := by
  have h6 := (okP_len hok).2
  refine rise_fits h.rise fun x hx => ?_
  obtain ⟨j, d, q, m', h1, h2, h3, h4, rfl⟩ := (h.mem x).1 hx
  have hb' := name_bd hok h1 (List.mem_of_getElem? h2)
  have := (List.getElem?_eq_some_iff.1 h1).1
  omega
theorem LvI.ends {p : Prg} (hok : okP p = true) {F : List Fd} (hF : Fnd p F) {l : List Int} (h : LvI p F p.length 0 l) : l = livR p := by
  unfold livR
  rw [if_pos hok]
  have h6 := (okP_len hok).2
  refine rise_ext h.rise (risL_rise _ _) fun x => ?_
  rw [h.mem x, risL_mem]
  constructor
  · rintro ⟨j, d, q, m', h1, h2, h3, h4, rfl⟩
    have hb' := name_bd hok h1 (List.mem_of_getElem? h2)
    have hj := (List.getElem?_eq_some_iff.1 h1).1
    obtain ⟨n, hn⟩ := Int.eq_ofNat_of_zero_le hb'.1
    rw [hn] at h4 hb' ⊢
    refine ⟨j * 20 + n, by omega, ?_, by omega⟩
    rw [livB_iff, show (j * 20 + n) / 20 = j by omega, show (j * 20 + n) % 20 = n by omega]
    exact (hF.live j n).1 h4
  · rintro ⟨q, hq, hb, rfl⟩
    have hr := livB_iff.1 hb
    obtain ⟨cl, own, hc, ho⟩ := (rd_there hok hr).2 rfl
    obtain ⟨k, hk, hke⟩ := List.getElem_of_mem (own_mem ho)
    refine ⟨q / 20, cl, k, own, hc, by rw [List.getElem?_eq_getElem hk, hke], .inl (List.getElem?_eq_some_iff.1 hc).1, ?_, ?_⟩
    · rw [ownF_name ho]; exact (hF.live _ _).2 hr
    · rw [ownF_name ho]; omega
set_option maxRecDepth 100000 in
set_option maxHeartbeats 1000000 in
theorem implLive (Bp : Nat) (p : Prg) (a : Option Addr) (cap : Nat) (hsp : SmallP p) (w : World) (hsk : SK front Bp w (.slice a p.length cap) p) :
    Calls Tryz.prog 17 #[.agg #[.slice a p.length cap]] w fun e w' => ∃ v, e = .returned v ∧ Grow w.heap.size w' v (livR p) ∧ Below w.heap.size w w' := by
  obtain ⟨i0, hif, hz0, hz1, hz2⟩ := info_parts infoN
  have HSK : Hid (SK front Bp w (.slice a p.length cap) p) := hsk
  have HSP : Hid (SmallP p) := hsp
  clear hsk hsp
  obtain ⟨A, hA⟩ : ∃ A, w.heap.size = A := ⟨_, rfl⟩
  obtain ⟨W, hW⟩ : ∃ W, W = (w.alloc (.cells #[.slice a p.length cap] 30)).alloc (.cells #[] 2) := ⟨_, rfl⟩
  have hwW : Below w.heap.size w W := by rw [hW]; exact ((Below.refl _ _).alloc (Nat.le_refl _) _).alloc (by simp) _
  have PC : Hid (Cells W A [.slice a p.length cap]) := by rw [hW, ← hA]; exact (Cells.new w _ rfl _ _).alloc _
  have GW : Hid (Grow A W (.slice (some ⟨A + 1, 0, none⟩) 0 0) []) := by
    have h := (grow_start (w.alloc (.cells #[.slice a p.length cap] 30))).base' (B' := w.heap.size) (by simp)
    simp only [World.size_alloc] at h
    rw [hW, ← hA]; exact h
  have hWz : W.heap.size = A + 1 + 1 := by rw [hW, ← hA]; simp
  rw [hA]
  go_enter Tryz.func17, Tryz.ntmps17
  go_wp2_with fail
  try simp only [hA]
  rw [← hW]
  clear hW
  refine (implProgramOk Bp p a cap HSP.out _ (SK.on HSK.out (Keep.of hwW))).mono ?_
  rintro e w1 ⟨rfl, hb1⟩
  have hw1 : Below A w w1 := by rw [← hA]; exact below_over hwW hb1
  have P1 : Hid (Cells w1 A [.slice a p.length cap]) := PC.out.on hb1
  have G1 : Hid (Grow A w1 (.slice (some ⟨A + 1, 0, none⟩) 0 0) []) := GW.out.on hb1
  have hz1' := hb1.size
  clear PC GW hb1
  cases hok : okP p
  · have HG : Hid (Grow A w1 (.slice (some ⟨A + 1, 0, none⟩) 0 0) (livR p)) := by show Grow _ _ _ _; unfold livR; rw [hok]; exact G1.out
    clear hok
    go_wp2
    go_ret
    exact ⟨_, rfl, HG.out, hw1⟩
  · have HOK : Hid (okP p = true) := hok
    have h6 := (okP_len hok).2
    have p1 := P1.out.g0.1
    have hsr := searched_at Bp p hok HSP.out cap a w1 (SK.on HSK.out (Keep.of (by rw [hA]; exact hw1)))
    clear hok
    go_wp2_with fail
    refine hsr.mono ?_
    rintro e w2 ⟨sb, mb, v, F, rfl, hS, hF, hb2⟩
    have hw2 : Below A w w2 := hw1.trans (hb2.mono (by have := hw1.size; omega))
    have P2 : Hid (Cells w2 A [.slice a p.length cap]) := P1.out.on hb2
    have G2 : Hid (Grow A w2 (.slice (some ⟨A + 1, 0, none⟩) 0 0) []) := G1.out.on hb2
    have HS : Hid (Srch w1.heap.size sb mb (.slice a p.length cap) w2 v F []) := hS
    have HF : Hid (Fnd p F) := hF
    have FG : Hid (FarS sb mb w2 v (A + 1)) := FarS.low hS (by omega)
    have HL0 : Hid (LvI p F 0 0 []) := LvI.start p F
    obtain ⟨p2, _⟩ := P2.out.g0
    clear hsr hS hF hb2 P1 G1 p1
    go_wp2
    go_loopw [3, 20] (fun x y wr => ∃ (i : Nat) (l : List Int), i ≤ p.length ∧ y = .int .i64 (i : Int) ∧ Hid (LvI p F i 0 l) ∧ Hid (Grow A wr x l) ∧ Hid (Srch w1.heap.size sb mb (.slice a p.length cap) wr v F []) ∧ Hid (∀ g, x.ownBlock = some g → FarS sb mb wr v g) ∧ Below A w wr) (fun _ y _ => p.length - (intOf y).toNat)
    case atStart => exact ⟨0, [], Nat.zero_le _, rfl, HL0.out, G2.out, HS.out, fun g hg => by simp [Value.ownBlock] at hg; subst hg; exact FG.out, hw2⟩
    case round =>
      clear G2 HS FG p2 P2 HL0
      obtain ⟨i, l, hi, rfl, hL, hg, hS, hfar, hb⟩ := hrel
      obtain ⟨ga, ca, rfl⟩ := hg.out.form
      by_cases hlt : i < p.length
      · have hii : (i : Int) < (p.length : Int) := by omega
        obtain ⟨b, o, rfl, _, vf, vm, d0, d1, d2, hcv⟩ := HSK.out.get hlt
        obtain ⟨z1, t1, rfl⟩ := hcv.1.form
        obtain ⟨z2, t2, rfl⟩ := hcv.2.form
        have l0 : b < A := by rw [← hA]; exact cell_lt d0
        have c0 := (hb.cell l0).trans d0
        have c1 := (hb.cell l0).trans d1
        have c2 := (hb.cell l0).trans d2
        have HPI : Hid (p[i]? = some p[i]) := List.getElem?_eq_getElem hlt
        have HSM : Hid (SM front Bp w (.slice z2 p[i].meths.length t2) p[i].meths) := hcv.2
        have hsl := (HSP.out.2 _ (List.getElem_mem hlt)).2.1
        clear hcv d0 d1 d2
        generalize p[i] = c at *
        obtain ⟨V, hV⟩ : ∃ V, V = wr.alloc (.cells #[.int .i64 c.super, .slice z1 c.fields.length t1, .slice z2 c.meths.length t2] 52) := ⟨_, rfl⟩
        have hrV : Below wr.heap.size wr V := by rw [hV]; exact (Below.refl _ _).alloc (Nat.le_refl _) _
        have hbV : Below A w V := hb.trans (hrV.mono (by have := hb.size; omega))
        have HGV : Hid (Grow A V (.slice (some ⟨ga, 0, none⟩) l.length ca) l) := hg.out.on hrV
        have HSV : Hid (Srch w1.heap.size sb mb (.slice (some ⟨b, o, none⟩) p.length cap) V v F []) := hS.out.on hrV
        have HFV : Hid (FarS sb mb V v ga) := (hfar.out ga rfl).on hrV.size
        clear hg hS hfar hrV hb
        go_wp2
        rw [← hV]
        clear hV c0 c1 c2
        go_loopw [3, 29] (fun x y w2 => ∃ (k : Nat) (l' : List Int), k ≤ c.meths.length ∧ y = .int .i64 (k : Int) ∧ Hid (LvI p F i k l') ∧ Hid (Grow A w2 x l') ∧ Hid (Srch w1.heap.size sb mb (.slice (some ⟨b, o, none⟩) p.length cap) w2 v F []) ∧ Hid (∀ g, x.ownBlock = some g → FarS sb mb w2 v g) ∧ Below A w w2) (fun _ y _ => c.meths.length - (intOf y).toNat)
        case atStart => exact ⟨0, l, Nat.zero_le _, rfl, hL.out, HGV.out, HSV.out, fun g hg => by simp [Value.ownBlock] at hg; subst hg; exact HFV.out, hbV⟩
        case round =>
          clear HGV HSV HFV hbV hL
          obtain ⟨k, l', hk, rfl, hL, hg, hS, hfar, hb⟩ := hrel
          obtain ⟨ga, ca, rfl⟩ := hg.out.form
          have hl120 := hL.out.len HOK.out
          by_cases hlk : k < c.meths.length
          · have hki : (k : Int) < (c.meths.length : Int) := by omega
            obtain ⟨bm, om, rfl, _, va, vc, m0, m1, m2, m3, hmv⟩ := HSM.out.get hlk
            obtain ⟨x1, y1, rfl⟩ := hmv.1.form
            obtain ⟨x2, y2, rfl⟩ := front.form hmv.2
            have l1 : bm < A := by rw [← hA]; exact cell_lt m0
            have n0 := (hb.cell l1).trans m0
            have n1 := (hb.cell l1).trans m1
            have n2 := (hb.cell l1).trans m2
            have n3 := (hb.cell l1).trans m3
            have HMK : Hid (c.meths[k]? = some c.meths[k]) := List.getElem?_eq_getElem hlk
            have hbd := name_bd HOK.out HPI.out (List.getElem_mem hlk)
            clear hmv m0 m1 m2 m3
            generalize c.meths[k] = m at *
            have hn0 := hbd.1
            have hn1 := hbd.2
            clear hbd
            obtain ⟨V2, hV2⟩ : ∃ V2, V2 = wr.alloc (.cells #[.int .i64 m.name, .slice x1 m.args.length y1, .int .i64 m.gives, .slice x2 m.code.length y2] 55) := ⟨_, rfl⟩
            have hr2 : Below wr.heap.size wr V2 := by rw [hV2]; exact (Below.refl _ _).alloc (Nat.le_refl _) _
            have M2 : Hid (Cells V2 wr.heap.size [.int .i64 m.name, .slice x1 m.args.length y1, .int .i64 m.gives, .slice x2 m.code.length y2]) := by rw [hV2]; exact Cells.new wr _ rfl _ _
            have q0 : (wr.alloc (.cells #[.int .i64 m.name, .slice x1 m.args.length y1, .int .i64 m.gives, .slice x2 m.code.length y2] 55)).cell? ⟨wr.heap.size, 0, none⟩ = some (.int .i64 m.name) := by rw [← hV2]; exact M2.out.g0.1
            have hhas := has_at w1.heap.size sb mb (.slice (some ⟨b, o, none⟩) p.length cap) v F [] (1, (i : Int), m.name) (FewF.wf ⟨by dsimp only; omega, by dsimp only; omega, by dsimp only; omega, by dsimp only; omega, hn0, by dsimp only; omega⟩) V2 (hS.out.on hr2)
            go_wp2_with fail
            rw [← hV2]
            clear hV2 q0 n0 n1 n2 n3
            refine hhas.mono ?_
            rintro e w3 ⟨rfl, hb3⟩
            have hr3 : Below wr.heap.size wr w3 := below_over hr2 hb3
            have hg3 : Hid (Grow A w3 (.slice (some ⟨ga, 0, none⟩) l'.length ca) l') := hg.out.on hr3
            have hS3 : Hid (Srch w1.heap.size sb mb (.slice (some ⟨b, o, none⟩) p.length cap) w3 v F []) := hS.out.on hr3
            have hfar3 : Hid (FarS sb mb w3 v ga) := (hfar.out ga rfl).on hr3.size
            have M3 : Hid (Cells w3 wr.heap.size [.int .i64 m.name, .slice x1 m.args.length y1, .int .i64 m.gives, .slice x2 m.code.length y2]) := M2.out.on hb3
            have hw3 : Below A w w3 := hb.trans (hr3.mono (by have := hb.size; omega))
            clear hhas hg hS hfar hb3 hr2 hr3 M2
            by_cases hm : ((1, (i : Int), m.name) : Fd) ∈ F
            · rw [decide_eq_true hm]
              have HL2 : Hid (LvI p F i (k + 1) (l' ++ [(i : Int) * 20 + m.name])) := hL.out.add HOK.out HPI.out HMK.out hm
              obtain ⟨m0, _⟩ := M3.out.g0
              have HB : Hid (A ≤ w3.heap.size) := by show _ ≤ _; have := hw3.size; omega
              clear hL
              go_wp2_with fail
              refine (numberOf (i : Int) m.name (by omega) (by omega) hn0 hn1 w3).mono ?_
              rintro e X2 ⟨rfl, hX2⟩
              obtain rfl : w3 = X2 := hX2.symm
              clear hX2
              go_wp2_with (at_builtin; refine wpList_append_own_at _ rfl _ _ 26 rfl A 2 i0 (.int .i64 0) 1 8 Tryz.underlying26 hif hz0 hz1 hz2 rfl (by decide) _ _ _ rfl (hg3.out.1.alloc _) ⟨w3.heap.size, 0, none⟩ 1 1 [.int .i64 ((i : Int) * 20 + m.name)] rfl rfl (cell_one_new _ _ _) (by simp [Value.oneCell']) (by unfold maxLen; omega) (by omega) (by have := HB.out; simp; omega) ?_)
              intro v1 w4 hown1 hgrow1 hnil1 hat1
              have hb4 : Below A w w4 := (hw3.alloc (by have := HB.out; omega) _).grown hgrow1 (by have := HB.out; simp; omega) (fun q hq => by simp [Value.ownBlock] at hq; subst hq; exact (hg3.out.1.lt ga rfl).1)
              have HG : Hid (Grow A w4 v1 (l' ++ [(i : Int) * 20 + m.name])) := grow_next hown1 (fun h => by first | exact hnil1 h | exact absurd (hnil1.1 h).1 (by simp))
              have hbA : Below w3.heap.size w3 (w3.alloc (.cells #[.int .i64 ((i : Int) * 20 + m.name)] 2)) := (Below.refl _ _).alloc (Nat.le_refl _) _
              have HS4 : Hid (Srch w1.heap.size sb mb (.slice (some ⟨b, o, none⟩) p.length cap) w4 v F []) := (hS3.out.on hbA).grownG hgrow1 (fun r e => by simp [Value.ownBlock] at e; subst e; exact ⟨hfar3.out.s, hfar3.out.m, hfar3.out.v⟩)
              have HF4 : Hid (∀ g, v1.ownBlock = some g → FarS sb mb w4 v g) := fun g e => by
                have hl := (hown1.lt g e).2
                rcases hat1 with h | h
                · rw [h] at e; simp [Value.ownBlock] at e; subst e; exact ⟨hfar3.out.s, hfar3.out.m, hfar3.out.v, hl⟩
                · rw [h] at e
                  have e' : (w3.alloc (.cells #[.int .i64 ((i : Int) * 20 + m.name)] 2)).heap.size = g := by simpa using e
                  simp at e'
                  exact hS3.out.far (by omega) hl
              clear hown1 hgrow1 hnil1 hat1 hg3 hS3 hfar3 hbA m0 M3
              go_wp2
              go_roundw
              case rel => exact ⟨k + 1, _, by omega, by go_num, HL2.out, HG.out, HS4.out, HF4.out, hb4⟩
              case measure => simp [intOf]; omega
            · rw [decide_eq_false hm]
              have HL2 : Hid (LvI p F i (k + 1) l') := hL.out.skip HPI.out HMK.out hm
              clear hL
              go_wp2
              go_roundw
              case rel => exact ⟨k + 1, l', by omega, by go_num, HL2.out, hg3.out, hS3.out, fun g hg => by simp [Value.ownBlock] at hg; subst hg; exact hfar3.out, hw3⟩
              case measure => simp [intOf]; omega
          · obtain rfl : k = c.meths.length := by omega
            have HL2 : Hid (LvI p F (i + 1) 0 l') := hL.out.cls HPI.out
            clear hL
            go_wp2
            go_roundw
            case rel => exact ⟨i + 1, l', by omega, by go_num, HL2.out, hg.out, hS.out, hfar.out, hb⟩
            case measure => simp [intOf]; omega
      · obtain rfl : i = p.length := by omega
        have HG : Hid (Grow A wr (.slice (some ⟨ga, 0, none⟩) l.length ca) (livR p)) := by show Grow _ _ _ _; rw [← hL.out.ends HOK.out HF.out]; exact hg.out
        go_wp2
        go_ret
        exact ⟨_, rfl, HG.out, hb⟩
end Pg
end Go.Proofs.YtinanjjhkddikaaGreat
