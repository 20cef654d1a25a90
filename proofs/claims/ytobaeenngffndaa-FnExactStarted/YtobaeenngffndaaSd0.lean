/- How a machine begins: rows of values that grow; the program's fresh frame and fresh object. -/
import Derived.Test.YtobaeenngffndaaMz1
import Derived.Test.YtobaeenngffndaaPf1
import Derived.Laws.AppendOwnNone
namespace Go.Proofs.Ytobaeenngffndaa
namespace Pg
open Go.ChangeShapes Go.WideShapes Go.ChangeAt Go.RowKit St

def flatV (l : List Vl) : List Value := l.flatMap fun x => [.int .i64 x.1, .int .i64 x.2]
theorem flatV_len (l : List Vl) : (flatV l).length = l.length * 2 := by
  induction l with
  | nil => rfl
  | cons x l ih => simp only [flatV, List.flatMap_cons, List.length_append, List.length_cons, List.length_nil] at ih ⊢; omega
theorem flatV_app (l r : List Vl) : flatV (l ++ r) = flatV l ++ flatV r := by simp [flatV]
theorem flatV_one (l : List Vl) : ∀ u ∈ flatV l, u.oneCell' = true := by
  intro u hu
  obtain ⟨x, _, hx⟩ := List.mem_flatMap.1 hu
  simp at hx
  rcases hx with rfl | rfl <;> rfl
theorem flatV_at (l : List Vl) : ∀ (j : Nat) (x : Vl), l[j]? = some x → (flatV l)[j * 2]? = some (.int .i64 x.1) ∧ (flatV l)[j * 2 + 1]? = some (.int .i64 x.2) := by
  induction l with
  | nil => intro j x h; simp at h
  | cons y l ih =>
    intro j x h
    cases j with
    | zero => simp at h; subst h; simp [flatV]
    | succ j =>
      have h' : l[j]? = some x := by simpa using h
      obtain ⟨h0, h1⟩ := ih j x h'
      have e0 : (j + 1) * 2 = j * 2 + 1 + 1 := by omega
      rw [e0]
      simp only [flatV, List.flatMap_cons, List.cons_append, List.nil_append, List.getElem?_cons_succ] at h0 h1 ⊢
      exact ⟨h0, h1⟩
theorem flatV_get {l : List Vl} {j : Nat} {u : Value} (h : (flatV l)[j]? = some u) : ∃ x, l[j / 2]? = some x ∧ ((j % 2 = 0 ∧ u = .int .i64 x.1) ∨ (j % 2 = 1 ∧ u = .int .i64 x.2)) := by
  have hj : j < (flatV l).length := (List.getElem?_eq_some_iff.1 h).1
  rw [flatV_len] at hj
  have hk : j / 2 < l.length := by omega
  refine ⟨l[j / 2], List.getElem?_eq_getElem hk, ?_⟩
  obtain ⟨h0, h1⟩ := flatV_at l (j / 2) _ (List.getElem?_eq_getElem hk)
  rcases (show j % 2 = 0 ∨ j % 2 = 1 by omega) with e | e
  · left
    have : j / 2 * 2 = j := by omega
    rw [this, h] at h0
    exact ⟨e, by simpa using h0⟩
  · right
    have : j / 2 * 2 + 1 = j := by omega
    rw [this, h] at h1
    exact ⟨e, by simpa using h1⟩
def GrowV (B : Nat) (w : World) (v : Value) (l : List Vl) : Prop := w.ownsRow B 79 2 v l.length (flatV l) ∧ v ≠ .slice none 0 0
theorem GrowV.vz {B : Nat} {w : World} {v : Value} {l : List Vl} (h : GrowV B w v l) : VZ (fun k => B ≤ k ∧ k < w.heap.size) w v l := by
  obtain ⟨h, hv⟩ := h
  have hc := @World.ownsRow.cells w B 79 2 v l.length (flatV l) h
  have hlt := @World.ownsRow.lt w B 79 2 v l.length (flatV l) h
  obtain ⟨_, ⟨h, _⟩ | ⟨g, cap, cur, rfl, hB, hblk, hcap, hmax, hsz, _⟩⟩ := h
  · exact absurd h hv
  · refine .inl ⟨g, cap, rfl, ⟨hB, (hlt g rfl).2⟩, (hlt g rfl).2, fun j x hj => ?_, fun j hj => ?_⟩
    · obtain ⟨h0, h1⟩ := flatV_at l j x hj
      have q0 := hc (g := g) rfl _ _ h0
      have q1 := hc (g := g) rfl _ _ h1
      rw [Go.WideShapes.add_plain, Nat.zero_add] at q0 q1
      exact ⟨q0, q1⟩
    · have hj2 : j < cur.size := by rw [hsz]; exact Nat.lt_of_lt_of_le hj (Nat.mul_le_mul_right _ hcap)
      exact ⟨⟨cur[j], by simp [World.cell?, hblk, hj2]⟩, by simp [World.frozen?, hblk]⟩
theorem GrowV.form {B : Nat} {w : World} {v : Value} {l : List Vl} (h : GrowV B w v l) : ∃ g cap, v = .slice (some ⟨g, 0, none⟩) l.length cap ∧ B ≤ g ∧ g < w.heap.size := by
  obtain ⟨h, hv⟩ := h
  have hlt := @World.ownsRow.lt w B 79 2 v l.length (flatV l) h
  obtain ⟨_, ⟨h, _⟩ | ⟨g, cap, cur, rfl, hB, _⟩⟩ := h
  · exact absurd h hv
  · exact ⟨g, cap, rfl, hB, (hlt g rfl).2⟩
theorem SV.flat {f : Bool} {B : Nat} {w : World} {b : Addr} {n cap : Nat} {l : List Vl} (h : SV f B w (.slice (some b) n cap) l) : ∀ j u, (flatV l)[j]? = some u → w.cell? (b.add j) = some u := by
  intro j u hu
  obtain ⟨x, hx, hc⟩ := flatV_get hu
  have hj : j / 2 < l.length := (List.getElem?_eq_some_iff.1 hx).1
  obtain ⟨b', o', he, _, d0, d1⟩ := h.get hj
  have hxe : l[j / 2] = x := by rw [List.getElem?_eq_getElem hj] at hx; simpa using hx
  rw [hxe] at d0 d1
  injection he with he
  subst he
  rw [Go.WideShapes.add_plain]
  rcases hc with ⟨e, rfl⟩ | ⟨e, rfl⟩
  · have : o' + j = o' + j / 2 * 2 := by omega
    rw [this]; exact d0
  · have : o' + j = o' + j / 2 * 2 + 1 := by omega
    rw [this]; exact d1
theorem own_formV {w : World} {B : Nat} {t : TypeId} {q : Nat} {v : Value} {n : Nat} {xs : List Value} (h : w.ownsRow B t q v n xs) : ∃ a cap, v = .slice a n cap ∧ n ≤ cap := by
  obtain ⟨_, ⟨rfl, rfl⟩ | ⟨g, cap, cur, rfl, _, _, hc, _⟩⟩ := h
  · exact ⟨_, _, rfl, Nat.le_refl _⟩
  · exact ⟨_, _, rfl, hc⟩
def slenV : Value → Nat
  | .slice _ n _ => n
  | _ => 0
theorem intValue_at (n : Int) (w : World) : Calls Try.prog 73 #[.int .i64 n] w fun e w' => e = .returned (.agg #[.int .i64 1, .int .i64 n]) ∧ Below w.heap.size w w' := by
  go_enter Try.func73, Try.ntmps73
  go_wp2
  go_returns
  exact ⟨rfl, by go_grown⟩
set_option maxRecDepth 100000 in
set_option maxHeartbeats 800000 in
theorem cloneVals {f : Bool} (B : Nat) (ad : Addr) (cap : Nat) (l : List Vl) (hl : l.length ≤ 1048576) (w : World) (h : SV f B w (.slice (some ad) l.length cap) l) :
    Calls Try.prog 72 #[.slice (some ad) l.length cap] w fun e w' => ∃ v, e = .returned v ∧ GrowV w.heap.size w' v l ∧ Below w.heap.size w w' := by
  obtain ⟨i0, hif, hz0, hz1, hz2⟩ := info_parts infoValue
  have HN : Hid (∀ x, Below w.heap.size w x → ∀ j u, (flatV l)[j]? = some u → x.cell? (ad.add j) = some u) := fun x hx => SV.flat (SV.on h (Keep.of hx))
  clear h
  have hq : ∀ W : World, (binOp .eql 55 (.slice (some ad) l.length cap) (.slice none 0 0)).run Try.prog W = .ok (.bool false) W := fun W => Lib.run_eql_slice_nil W _ _ _ _ _ _ _ Try.underlying55
  go_enter Try.func72, Try.ntmps72
  go_wp2_with (at_builtin; refine wpList_append_own _ rfl _ _ 55 rfl w.heap.size 79 i0 (.agg #[.int .i64 0, .int .i64 0]) 2 16 Try.underlying55 hif hz0 hz1 hz2 rfl (by decide) _ _ _ rfl (World.ownsRow_made w #[] 0 (Nat.le_refl _) (by decide) (by simp)) ad l.length cap (flatV l) rfl (flatV_len l) (HN.out _ ((Below.refl _ _).alloc (Nat.le_refl _) _)) (flatV_one _) (by unfold maxLen; omega) (by omega) (by simp) ?_)
  intro v' w1 hown hgrow hnil
  have hb : Below w.heap.size w w1 := ((Below.refl _ _).alloc (Nat.le_refl _) _).grown hgrow (by simp) (fun g hg => by simp [Value.ownBlock] at hg; omega)
  have HG : Hid (GrowV w.heap.size w1 v' l) := ⟨hown, fun h => by first | exact hnil h | exact absurd (hnil.1 h).1 (by simp)⟩
  clear hown hgrow hnil
  go_wp2
  go_ret
  exact ⟨_, rfl, HG.out, hb⟩
def frmV (l : List Vl) : List Vl := l ++ List.replicate (8 - l.length) (1, 0)
theorem frmV_len {l : List Vl} (h : l.length ≤ 8) : (frmV l).length = 8 := by simp [frmV]; omega
theorem lit_two (w : World) (x : Vl) (t : TypeId) : Hid (∀ (j : Nat) (u : Value), (flatV [x])[j]? = some u → (w.alloc (.cells #[.int .i64 x.1, .int .i64 x.2] t)).cell? ((⟨w.heap.size, 0, none⟩ : Addr).add j) = some u) := by
  show ∀ (j : Nat) (u : Value), _ → _
  intro j u hu
  rw [Go.WideShapes.add_plain, Nat.zero_add]
  match j with
  | 0 => simp [flatV] at hu; subst hu; simp [go_sem]
  | 1 => simp [flatV] at hu; subst hu; simp [go_sem]
  | j + 2 => simp [flatV] at hu
set_option maxRecDepth 100000 in
set_option maxHeartbeats 2000000 in
theorem freshFrame_at {f : Bool} (B : Nat) (cls nm : Int) (ad : Addr) (cap : Nat) (l : List Vl) (h8 : l.length ≤ 8) (w : World) (h : SV f B w (.slice (some ad) l.length cap) l) :
    Calls Try.prog 42 #[.int .i64 cls, .int .i64 nm, .slice (some ad) l.length cap] w fun e w' => ∃ x y, e = .returned (.agg #[.int .i64 cls, .int .i64 nm, .int .i64 0, .slice none 0 0, .slice x 8 y]) ∧ VZ (fun k => w.heap.size < k ∧ k < w'.heap.size) w' (.slice x 8 y) (frmV l) ∧ Below w.heap.size w w' := by
  obtain ⟨i0, hif, hz0, hz1, hz2⟩ := info_parts infoValue
  have HL : Hid (SV f B w (.slice (some ad) l.length cap) l) := h
  clear h
  obtain ⟨W, hW⟩ : ∃ W, W = w.alloc (.cells #[.int .i64 0, .int .i64 0, .int .i64 0, .slice none 0 0, .slice none 0 0] 59) := ⟨_, rfl⟩
  have hwW : Below w.heap.size w W := by rw [hW]; exact (Below.refl _ _).alloc (Nat.le_refl _) _
  have R0 : Hid (Cells W w.heap.size [.int .i64 0, .int .i64 0, .int .i64 0, .slice none 0 0, .slice none 0 0]) := by rw [hW]; exact Cells.new w _ rfl _ _
  have HZ : Hid (W.heap.size = w.heap.size + 1) := by rw [hW]; show _ = _; simp
  go_enter Try.func42, Try.ntmps42
  go_wp2_with fail
  rw [← hW]
  clear hW
  refine (cloneVals B ad cap l (by omega) _ (SV.on HL.out (Keep.of hwW))).mono ?_
  rintro e w1 ⟨v1, rfl, hg1, hb1⟩
  have HG1 : Hid (GrowV W.heap.size w1 v1 l) := hg1
  clear hg1
  go_wp2
  go_loopw [7] (fun v wr => ∃ k : Nat, l.length + k ≤ 8 ∧ Hid (GrowV W.heap.size wr v (l ++ List.replicate k (1, 0))) ∧ Below W.heap.size W wr) (fun v _ => 8 - slenV v)
  case atStart => exact ⟨0, by omega, by show GrowV _ _ _ _; rw [List.replicate_zero, List.append_nil]; exact HG1.out, hb1⟩
  case round =>
    obtain ⟨k, hk, hg, hb⟩ := hrel
    obtain ⟨g, cp, hv, hgB, hgl⟩ := GrowV.form hg.out
    have hlen : (l ++ List.replicate k ((1, 0) : Vl)).length = l.length + k := by simp
    rw [hlen] at hv
    subst hv
    by_cases hlt : l.length + k < 8
    · have hd : decide (((l.length + k : Nat) : Int) < 8) = true := by simp; omega
      have HBS : Hid (W.heap.size ≤ wr.heap.size) := hb.size
      have HRP : Hid (l ++ List.replicate (k + 1) ((1, 0) : Vl) = (l ++ List.replicate k ((1, 0) : Vl)) ++ [(1, 0)]) := by show _ = _; rw [List.replicate_succ', List.append_assoc]
      have HGO : Hid (wr.ownsRow W.heap.size 79 2 (.slice (some ⟨g, 0, none⟩) (l.length + k) cp) (l.length + k) (flatV (l ++ List.replicate k (1, 0)))) := by
        have h := hg.out.1
        rw [hlen] at h
        exact h
      clear hg hlen hgB hgl
      go_wp2_with fail
      refine (intValue_at 0 _).mono ?_
      rintro e w2 ⟨rfl, hb2⟩
      have hw2 : Below W.heap.size W w2 := below_over hb hb2
      have HGA : Hid ((w2.alloc (.cells #[.int .i64 1, .int .i64 0] 79)).ownsRow W.heap.size 79 2 (.slice (some ⟨g, 0, none⟩) (l.length + k) cp) (l.length + k) (flatV (l ++ List.replicate k (1, 0)))) := (ownOn HGO.out hb2).alloc _
      have HS2 : Hid (W.heap.size ≤ w2.heap.size) := hw2.size
      clear hb hb2 HGO
      go_wp2_with (at_builtin; refine wpList_append_own _ rfl _ _ 55 rfl W.heap.size 79 i0 (.agg #[.int .i64 0, .int .i64 0]) 2 16 Try.underlying55 hif hz0 hz1 hz2 rfl (by decide) _ _ _ rfl HGA.out ⟨w2.heap.size, 0, none⟩ 1 1 (flatV [(1, 0)]) rfl rfl (lit_two w2 (1, 0) _).out (flatV_one _) (by unfold maxLen; omega) (by omega) (by have := HS2.out; simp; omega) ?_)
      intro v2 w3 hown hgrow hnil
      have hb3 : Below W.heap.size W w3 := (hw2.alloc hw2.size _).grown hgrow (by have := HS2.out; simp; omega) (fun j hj => by have := (HGA.out.lt j hj).1; omega)
      have HG2 : Hid (GrowV W.heap.size w3 v2 (l ++ List.replicate (k + 1) (1, 0))) := by
        show GrowV _ _ _ _
        rw [HRP.out]
        refine ⟨?_, fun e => ?_⟩
        · have e2 : ((l ++ List.replicate k ((1, 0) : Vl)) ++ [(1, 0)]).length = l.length + k + 1 := by simp; omega
          rw [flatV_app, e2]; exact hown
        · first | exact hnil e | exact absurd (hnil.1 e).1 (by simp)
      have hsl : slenV v2 = l.length + k + 1 := by
        obtain ⟨a3, c3, rfl, _⟩ := own_formV hown
        rfl
      clear hown hgrow hnil hw2 HGA
      go_wp2
      go_roundw
      case rel => exact ⟨k + 1, by omega, HG2, hb3⟩
      case measure => rw [hsl]; simp [slenV]; omega
    · have hk8 : l.length + k = 8 := by omega
      have HE : Hid (l ++ List.replicate k ((1, 0) : Vl) = frmV l) := by show _ = l ++ List.replicate (8 - l.length) (1, 0); congr 2; omega
      have HG8 : Hid (GrowV W.heap.size wr (.slice (some ⟨g, 0, none⟩) 8 cp) (frmV l)) := by rw [← HE.out, ← hk8]; exact hg.out
      clear hg hlen
      rw [hk8]
      have RA := R0.out.on hb
      obtain ⟨r0, q0⟩ := RA.g0
      obtain ⟨r1, q1⟩ := RA.g1
      obtain ⟨r2, q2⟩ := RA.g2
      obtain ⟨r3, q3⟩ := RA.g3
      obtain ⟨r4, q4⟩ := RA.g4
      have R5 := ((((RA.s0 (.int .i64 cls)).s1 (.int .i64 nm)).s2 (.int .i64 0)).s3 (.slice none 0 0)).s4 (.slice (some ⟨g, 0, none⟩) 8 cp)
      obtain ⟨e0, _⟩ := R5.g0
      obtain ⟨e1, _⟩ := R5.g1
      obtain ⟨e2, _⟩ := R5.g2
      obtain ⟨e3, _⟩ := R5.g3
      obtain ⟨e4, _⟩ := R5.g4
      have HT : Hid (Tch (fun k => k = w.heap.size) wr (((((wr.setCell ⟨w.heap.size, 0, none⟩ (.int .i64 cls)).setCell ⟨w.heap.size, 1, none⟩ (.int .i64 nm)).setCell ⟨w.heap.size, 2, none⟩ (.int .i64 0)).setCell ⟨w.heap.size, 3, none⟩ (.slice none 0 0)).setCell ⟨w.heap.size, 4, none⟩ (.slice (some ⟨g, 0, none⟩) 8 cp))) := ((((Tch.set (S := fun k => k = w.heap.size) wr (p := ⟨w.heap.size, 0, none⟩) rfl _).trans (Tch.set (S := fun k => k = w.heap.size) _ (p := ⟨w.heap.size, 1, none⟩) rfl _)).trans (Tch.set (S := fun k => k = w.heap.size) _ (p := ⟨w.heap.size, 2, none⟩) rfl _)).trans (Tch.set (S := fun k => k = w.heap.size) _ (p := ⟨w.heap.size, 3, none⟩) rfl _)).trans (Tch.set (S := fun k => k = w.heap.size) _ (p := ⟨w.heap.size, 4, none⟩) rfl _)
      have HV : Hid (VZ (fun k => w.heap.size < k ∧ k < wr.heap.size) wr (.slice (some ⟨g, 0, none⟩) 8 cp) (frmV l)) := HG8.out.vz.weak (fun k hk => ⟨by have := HZ.out; omega, hk.2⟩)
      have HBW : Hid (Below w.heap.size w wr) := below_over hwW hb
      clear R5 RA HG8 HE hb hk8
      go_wp2
      refine bodyPost_ret (v := .agg #[.int .i64 cls, .int .i64 nm, .int .i64 0, .slice none 0 0, .slice (some ⟨g, 0, none⟩) 8 cp]) (by simp [results, Try.results42, go_sem, e0, e1, e2, e3, e4]) rfl ?_
      refine ⟨_, _, rfl, ?_, HBW.out.trans (HT.out.below (by have := HBW.out.size; omega) (fun k hk => by omega))⟩
      exact (HV.out.tch HT.out (fun k hk hk2 => by omega)).weak (fun k hk => ⟨hk.1, by simpa using hk.2⟩)
end Pg
end Go.Proofs.Ytobaeenngffndaa
