/- The contract of the specification's own copy of a program. -/
import Derived.Test.YtdomclicgajihaaJLo0
import Derived.Deep.RegionHeld3
import Derived.Deep.CutRange
import Derived.Deep.DeepCutAuto
namespace Go.Proofs.Ytdomclicgajihaa
namespace Pg
open Go.ChangeShapes Go.WideShapes Go.ChangeAt Go.RowKit St

theorem fz_sets {S kb g3 d : Nat} {w3 : World} {l : List Int} (h : Grow S w3 (.slice (some ⟨g3, 0, none⟩) l.length d) l) (hne : g3 ≠ kb) (x0 x1 x2 : Value) :
    Fz S (((w3.setCell ⟨kb, 0, none⟩ x0).setCell ⟨kb, 1, none⟩ x1).setCell ⟨kb, 2, none⟩ x2).heap.size kb (((w3.setCell ⟨kb, 0, none⟩ x0).setCell ⟨kb, 1, none⟩ x1).setCell ⟨kb, 2, none⟩ x2) (.slice (some ⟨g3, 0, none⟩) l.length d) l := by
  have hl := (h.1.lt g3 rfl).2
  refine ⟨⟨zown_on h.1 (fun g hg => ?_), h.2⟩, by simp [Value.ownBlock, hne], fun g hg => ?_⟩
  · simp [Value.ownBlock] at hg
    subst hg
    exact (zset_block _ hne _).trans ((zset_block _ hne _).trans (zset_block _ hne _))
  · simp [Value.ownBlock] at hg
    subst hg
    simpa using hl

set_option maxRecDepth 100000 in
set_option maxHeartbeats 4000000 in
theorem specCopy (B : Nat) (a : Option Addr) (cap : Nat) (p : Prg) (hsp : SmallP p) (w : World) (hp : SK front B w (.slice a p.length cap) p) :
    Calls Try.prog 37 #[.agg #[.slice a p.length cap]] w fun e w' => ∃ v l, e = .returned (.agg #[v]) ∧ l.map (·.1) = p ∧ KQ QC (w.heap.size + 3) w'.heap.size w' v l ∧ Below w.heap.size w w' := by
  obtain ⟨k0, hif, hz0, hz1, hz2⟩ := info_parts infoN
  obtain ⟨jm, hjm, hm0, hm1, hm2⟩ := info_parts infoMe
  obtain ⟨jk, hjk, hk0, hk1, hk2⟩ := info_parts infoCl
  have HSP : Hid (SmallP p) := hsp
  have HP : Hid (SK front B w (.slice a p.length cap) p) := hp
  have hpl := hsp.1
  clear hp hsp
  obtain ⟨V, hV⟩ : ∃ V, V = ((w.alloc (.cells #[.slice a p.length cap] 28)).alloc (.cells #[.slice none 0 0] 28)).alloc (.cells #[.slice none 0 0] 28) := ⟨_, rfl⟩
  have LV : Hid (LC w w.heap.size (.slice a p.length cap) (.slice none 0 0) V) := by
    show LC _ _ _ _ _
    rw [hV]
    refine ⟨(((Below.refl _ _).alloc (Nat.le_refl _) _).alloc (by simp) _).alloc (by simp; omega) _, ((Cells.new w _ rfl _ _).alloc _).alloc _, (Cells.new (w.alloc _) _ (by simp) _ _).alloc _, Cells.new ((w.alloc _).alloc _) _ (by simp) _ _, by simp⟩
  obtain ⟨s, hs⟩ : ∃ s, w.heap.size = s := ⟨_, rfl⟩
  rw [hs] at LV
  rw [hs]
  go_enter Try.func37, Try.ntmps37
  go_wp2_with fail
  try rw [hs]
  rw [← hV]
  clear hV
  go_loopw [4] (fun x wr => ∃ (i T : Nat) (v : Value) (l : List (Cls × Value × Value)), i ≤ p.length ∧ x = .int .i64 (i : Int) ∧ Hid (l.map (·.1) = p.take i) ∧ Hid (LC w s (.slice a p.length cap) v wr) ∧ Hid (KQ QC (s + 3) T wr v l) ∧ T ≤ wr.heap.size) (fun x _ => p.length - (intOf x).toNat)
  case atStart => exact ⟨0, _, _, [], Nat.zero_le _, rfl, rfl, LV.out, KQ.nil _ _ _ _, Nat.le_refl _⟩
  case round =>
    clear LV
    obtain ⟨i, T, v, l, hi, rfl, hl, hLC, hKQ, hT⟩ := hrel
    have c0 := hLC.out.c0.g0.1
    by_cases hlt : i < p.length
    · have hii : (i : Int) < (p.length : Int) := by omega
      obtain ⟨b, o, rfl, hBb, vf, vm, d0, d1, d2, hcv⟩ := HP.out.get hlt
      obtain ⟨z1, t1, rfl⟩ := hcv.1.form
      obtain ⟨z2, t2, rfl⟩ := hcv.2.form
      have HSI : Hid (SI true B w (.slice z1 p[i].fields.length t1) p[i].fields) := hcv.1
      have HM : Hid (SM front B w (.slice z2 p[i].meths.length t2) p[i].meths) := hcv.2
      have l0 : b < s := by have := cell_lt d0; rw [← hs]; exact this
      have hsc := HSP.out.2 _ (List.getElem_mem hlt)
      have hsf := hsc.1
      have hsm := hsc.2.1
      have HSMM : Hid (∀ m ∈ p[i].meths, SmallM m) := hsc.2.2
      have HL : Hid (p.take (i + 1) = p.take i ++ [p[i]]) := List.take_succ_eq_append_getElem hlt
      have FC : Hid (∀ X, Below s w X → X.cell? ⟨b, o + i * 3, none⟩ = some (.int .i64 p[i].super) ∧ X.cell? ⟨b, o + i * 3 + 1, none⟩ = some (.slice z1 p[i].fields.length t1) ∧ X.cell? ⟨b, o + i * 3 + 2, none⟩ = some (.slice z2 p[i].meths.length t2)) := fun X hX => ⟨(hX.cell l0).trans d0, (hX.cell l0).trans d1, (hX.cell l0).trans d2⟩
      clear hcv hsc d0 d1 d2
      generalize p[i] = c at *
      go_upto_region 5 with fail
      have FA : Hid (∀ X, Below wr.heap.size wr X → X.cell? ⟨s, 0, none⟩ = some (.slice (some ⟨b, o, none⟩) p.length cap) ∧ X.cell? ⟨b, o + i * 3, none⟩ = some (.int .i64 c.super) ∧ X.cell? ⟨b, o + i * 3 + 1, none⟩ = some (.slice z1 c.fields.length t1) ∧ X.cell? ⟨b, o + i * 3 + 2, none⟩ = some (.slice z2 c.meths.length t2)) := fun X hX =>
        have h := hLC.out.on hX
        ⟨h.c0.g0.1, FC.out X h.lo⟩
      have HSX : Hid (∀ X, Below wr.heap.size wr X → SI true B X (.slice z1 c.fields.length t1) c.fields) := fun X hX => SI.on HSI.out (Keep.of (by rw [hs]; exact (hLC.out.on hX).lo))
      clear c0
      go_cut [5] (fun x u => ∃ (kb : Nat) (vf : Value), x = .pointer (some ⟨kb, 0, none⟩) ∧ wr.heap.size ≤ kb ∧ Hid (Cells u kb [.int .i64 c.super, vf, .slice none 0 0]) ∧ Hid (Fz wr.heap.size u.heap.size kb u vf c.fields) ∧ Below wr.heap.size wr u)
      case first =>
        have HK : Hid (∀ X, Below wr.heap.size wr X → Below wr.heap.size wr X ∧ X.cell? ⟨s, 0, none⟩ = some (.slice (some ⟨b, o, none⟩) p.length cap) ∧ X.cell? ⟨b, o + i * 3, none⟩ = some (.int .i64 c.super) ∧ X.cell? ⟨b, o + i * 3 + 1, none⟩ = some (.slice z1 c.fields.length t1)) := fun X hX =>
          have h := FA.out X hX
          ⟨hX, h.1, h.2.1, h.2.2.1⟩
        have HA : Hid (∀ (X : World) (ob : Obj), (Below wr.heap.size wr X ∧ X.cell? ⟨s, 0, none⟩ = some (.slice (some ⟨b, o, none⟩) p.length cap) ∧ X.cell? ⟨b, o + i * 3, none⟩ = some (.int .i64 c.super) ∧ X.cell? ⟨b, o + i * 3 + 1, none⟩ = some (.slice z1 c.fields.length t1)) → ((fun X : World => Below wr.heap.size wr X ∧ X.cell? ⟨s, 0, none⟩ = some (.slice (some ⟨b, o, none⟩) p.length cap) ∧ X.cell? ⟨b, o + i * 3, none⟩ = some (.int .i64 c.super) ∧ X.cell? ⟨b, o + i * 3 + 1, none⟩ = some (.slice z1 c.fields.length t1)) (X.alloc ob))) := fun X ob h => HK.out _ (h.1.alloc h.1.size _)
        have HT : Hid (∀ (X : World) (k i' : Nat) (v : Value), wr.heap.size ≤ k → (Below wr.heap.size wr X ∧ X.cell? ⟨s, 0, none⟩ = some (.slice (some ⟨b, o, none⟩) p.length cap) ∧ X.cell? ⟨b, o + i * 3, none⟩ = some (.int .i64 c.super) ∧ X.cell? ⟨b, o + i * 3 + 1, none⟩ = some (.slice z1 c.fields.length t1)) → ((fun X : World => Below wr.heap.size wr X ∧ X.cell? ⟨s, 0, none⟩ = some (.slice (some ⟨b, o, none⟩) p.length cap) ∧ X.cell? ⟨b, o + i * 3, none⟩ = some (.int .i64 c.super) ∧ X.cell? ⟨b, o + i * 3 + 1, none⟩ = some (.slice z1 c.fields.length t1)) (X.setCell ⟨k, i', none⟩ v))) := fun X k i' v hk h => HK.out _ (h.1.setCell (p := ⟨k, i', none⟩) hk _)
        have KD := HK.out _ (Below.refl wr.heap.size wr).drew
        have b0 : Hid (Below wr.heap.size wr wr) := Below.refl _ _
        have b1 : Hid (Below wr.heap.size wr (wr.alloc (.cells #[] 2))) := b0.out.alloc (by simp) _
        have b2 : Hid (Below wr.heap.size wr (wr.alloc (.cells #[.int .i64 0, .slice none 0 0, .slice none 0 0] 63))) := b0.out.alloc (by simp) _
        have b12 : Hid (Below wr.heap.size wr ((wr.alloc (.cells #[] 2)).alloc (.cells #[.int .i64 0, .slice none 0 0, .slice none 0 0] 63))) := b1.out.alloc (by simp) _
        have b21 : Hid (Below wr.heap.size wr ((wr.alloc (.cells #[.int .i64 0, .slice none 0 0, .slice none 0 0] 63)).alloc (.cells #[] 2))) := b2.out.alloc (by simp) _
        have O1 : Hid ((wr.alloc (.cells #[] 2)).drew.ownsRow wr.heap.size 2 1 (.slice (some ⟨wr.heap.size, 0, none⟩) 0 0) 0 []) := ownOn (World.ownsRow_made (base := wr.heap.size) (e := 2) (size := 1) wr #[] 0 (by simp) (by decide) (by simp)) (Below.refl _ _).drew
        have O12 : Hid (((wr.alloc (.cells #[] 2)).alloc (.cells #[.int .i64 0, .slice none 0 0, .slice none 0 0] 63)).drew.ownsRow wr.heap.size 2 1 (.slice (some ⟨wr.heap.size, 0, none⟩) 0 0) 0 []) := ownOn ((World.ownsRow_made (base := wr.heap.size) (e := 2) (size := 1) wr #[] 0 (by simp) (by decide) (by simp)).alloc _) (Below.refl _ _).drew
        have O21 : Hid (((wr.alloc (.cells #[.int .i64 0, .slice none 0 0, .slice none 0 0] 63)).alloc (.cells #[] 2)).drew.ownsRow wr.heap.size 2 1 (.slice (some ⟨wr.heap.size + 1, 0, none⟩) 0 0) 0 []) := by
          have h := World.ownsRow_made (base := wr.heap.size) (e := 2) (size := 1) (wr.alloc (.cells #[.int .i64 0, .slice none 0 0, .slice none 0 0] 63)) #[] 0 (by simp) (by decide) (by simp)
          unfold Hid
          refine ownOn ?_ (Below.refl _ _).drew
          simpa using h
        have K12 : Hid (Cells ((wr.alloc (.cells #[] 2)).alloc (.cells #[.int .i64 0, .slice none 0 0, .slice none 0 0] 63)).drew (wr.heap.size + 1) [.int .i64 0, .slice none 0 0, .slice none 0 0]) := (Cells.new (wr.alloc _) _ (by simp) _ _).on (Below.refl _ _).drew
        have K21 : Hid (Cells ((wr.alloc (.cells #[.int .i64 0, .slice none 0 0, .slice none 0 0] 63)).alloc (.cells #[] 2)).drew wr.heap.size [.int .i64 0, .slice none 0 0, .slice none 0 0]) := ((Cells.new wr _ rfl _ _).alloc _).on (Below.refl _ _).drew
        clear HSP HP hpl hl hKQ hT HM HSMM HL FC hsm hjm hm0 hm1 hm2 hjk hk0 hk1 hk2 hif hz0 hz1 hz2 l0 hBb hLC HSI
        go_region_held3 (fun X => Below wr.heap.size wr X ∧ X.cell? ⟨s, 0, none⟩ = some (.slice (some ⟨b, o, none⟩) p.length cap) ∧ X.cell? ⟨b, o + i * 3, none⟩ = some (.int .i64 c.super) ∧ X.cell? ⟨b, o + i * 3 + 1, none⟩ = some (.slice z1 c.fields.length t1))
          (first | exact KD | exact KA.out | assumption | exact HA.out _ _ (by assumption) | exact HT.out _ _ _ _ (by first | exact Nat.le_refl _ | omega) (HT.out _ _ _ _ (by first | exact Nat.le_refl _ | omega) (HT.out _ _ _ _ (by first | exact Nat.le_refl _ | omega) (by assumption))))
          (first
            | (refine stepAppInts _ rfl (.tmp 21) (.tmp 27) rfl wr.heap.size (.slice (some ⟨wr.heap.size, 0, none⟩) 0 0) 0 [] (by first | rfl | simp [Act.eval, Act.put]) O1.out z1 c.fields t1 B (by first | rfl | simp [Act.eval, Act.put]) (HSX.out _ b1.out.drew) (by omega) (by simp <;> omega) ?_; intro v3 w3 hown3 hgrow3 hnil3 hat3; have hG : Grow wr.heap.size w3 v3 c.fields := ⟨by simpa using hown3, fun h => absurd (hnil3.1 h).1 (by simp)⟩; obtain ⟨g3, d3, rfl⟩ := hG.form; have HG : Hid (Grow wr.heap.size w3 (.slice (some ⟨g3, 0, none⟩) c.fields.length d3) c.fields) := hG; clear hG; have b3 : Hid (Below wr.heap.size wr w3) := b1.out.drew.grown hgrow3 (by simp <;> omega) (fun g hg => by simp [Value.ownBlock] at hg; omega); have hz3 := b3.out.size; have KA : Hid _ := HK.out _ b3.out)
            | (refine stepAppInts _ rfl (.tmp 21) (.tmp 27) rfl wr.heap.size (.slice (some ⟨wr.heap.size, 0, none⟩) 0 0) 0 [] (by first | rfl | simp [Act.eval, Act.put]) O12.out z1 c.fields t1 B (by first | rfl | simp [Act.eval, Act.put]) (HSX.out _ b12.out.drew) (by omega) (by simp <;> omega) ?_; intro v3 w3 hown3 hgrow3 hnil3 hat3; have hG : Grow wr.heap.size w3 v3 c.fields := ⟨by simpa using hown3, fun h => absurd (hnil3.1 h).1 (by simp)⟩; obtain ⟨g3, d3, rfl⟩ := hG.form; have HG : Hid (Grow wr.heap.size w3 (.slice (some ⟨g3, 0, none⟩) c.fields.length d3) c.fields) := hG; clear hG; have b3 : Hid (Below wr.heap.size wr w3) := b12.out.drew.grown hgrow3 (by simp <;> omega) (fun g hg => by simp [Value.ownBlock] at hg; omega); have hz3 := b3.out.size; have KA : Hid _ := HK.out _ b3.out; have RX := zcells K12.out (hgrow3.block _ (by simp <;> omega) (by simp [Value.ownBlock] <;> omega)); obtain ⟨x0, y0⟩ := RX.g0; obtain ⟨x1, y1⟩ := RX.g1; obtain ⟨x2, y2⟩ := RX.g2)
            | (refine stepAppInts _ rfl (.tmp 21) (.tmp 27) rfl wr.heap.size (.slice (some ⟨wr.heap.size + 1, 0, none⟩) 0 0) 0 [] (by first | rfl | simp [Act.eval, Act.put]) O21.out z1 c.fields t1 B (by first | rfl | simp [Act.eval, Act.put]) (HSX.out _ b21.out.drew) (by omega) (by simp <;> omega) ?_; intro v3 w3 hown3 hgrow3 hnil3 hat3; have hG : Grow wr.heap.size w3 v3 c.fields := ⟨by simpa using hown3, fun h => absurd (hnil3.1 h).1 (by simp)⟩; obtain ⟨g3, d3, rfl⟩ := hG.form; have HG : Hid (Grow wr.heap.size w3 (.slice (some ⟨g3, 0, none⟩) c.fields.length d3) c.fields) := hG; clear hG; have b3 : Hid (Below wr.heap.size wr w3) := b21.out.drew.grown hgrow3 (by simp <;> omega) (fun g hg => by simp [Value.ownBlock] at hg; omega); have hz3 := b3.out.size; have KA : Hid _ := HK.out _ b3.out; have RX := zcells K21.out (hgrow3.block _ (by simp <;> omega) (by simp [Value.ownBlock] <;> omega)); obtain ⟨x0, y0⟩ := RX.g0; obtain ⟨x1, y1⟩ := RX.g1; obtain ⟨x2, y2⟩ := RX.g2))
        · have h3 := (HG.out.1.lt g3 rfl).2
          have HC : Hid (Cells (w3.alloc (.cells #[.int .i64 c.super, .slice (some ⟨g3, 0, none⟩) c.fields.length d3, .slice none 0 0] 63)) w3.heap.size [.int .i64 c.super, .slice (some ⟨g3, 0, none⟩) c.fields.length d3, .slice none 0 0]) := Cells.new w3 _ rfl _ _
          have HF : Hid (Fz wr.heap.size (w3.alloc (.cells #[.int .i64 c.super, .slice (some ⟨g3, 0, none⟩) c.fields.length d3, .slice none 0 0] 63)).heap.size w3.heap.size (w3.alloc (.cells #[.int .i64 c.super, .slice (some ⟨g3, 0, none⟩) c.fields.length d3, .slice none 0 0] 63)) (.slice (some ⟨g3, 0, none⟩) c.fields.length d3) c.fields) := ⟨HG.out.on ((Below.refl _ _).alloc (Nat.le_refl _) _), (by simp [Value.ownBlock]; omega), (fun g hg => by simp [Value.ownBlock] at hg; simp; omega)⟩
          have HB : Below wr.heap.size wr (w3.alloc (.cells #[.int .i64 c.super, .slice (some ⟨g3, 0, none⟩) c.fields.length d3, .slice none 0 0] 63)) := b3.out.alloc hz3 _
          go_wp2_with fail
          go_meet
          exact ⟨_, _, rfl, hz3, HC.out, HF.out, HB⟩
        · have hne : g3 ≠ wr.heap.size + 1 := by
            rcases hat3 with h | h <;> simp [Value.ownBlock] at h <;> omega
          have HC : Hid (Cells (((w3.setCell ⟨wr.heap.size + 1, 0, none⟩ (.int .i64 c.super)).setCell ⟨wr.heap.size + 1, 1, none⟩ (.slice (some ⟨g3, 0, none⟩) c.fields.length d3)).setCell ⟨wr.heap.size + 1, 2, none⟩ (.slice none 0 0)) (wr.heap.size + 1) [.int .i64 c.super, .slice (some ⟨g3, 0, none⟩) c.fields.length d3, .slice none 0 0]) := ((RX.s0 _).s1 _).s2 _
          have HF := fz_sets HG.out hne (.int .i64 c.super) (.slice (some ⟨g3, 0, none⟩) c.fields.length d3) (.slice none 0 0)
          have HF' : Hid (Fz _ _ _ _ _ _) := HF
          have HB : Below wr.heap.size wr (((w3.setCell ⟨wr.heap.size + 1, 0, none⟩ (.int .i64 c.super)).setCell ⟨wr.heap.size + 1, 1, none⟩ (.slice (some ⟨g3, 0, none⟩) c.fields.length d3)).setCell ⟨wr.heap.size + 1, 2, none⟩ (.slice none 0 0)) := ((b3.out.setCell (p := ⟨wr.heap.size + 1, 0, none⟩) (by simp) _).setCell (p := ⟨wr.heap.size + 1, 1, none⟩) (by simp) _).setCell (p := ⟨wr.heap.size + 1, 2, none⟩) (by simp) _
          clear HF RX x0 y0 x1 y1 x2 y2 K12 K21
          go_wp2_with fail
          go_meet
          exact ⟨_, _, rfl, Nat.le_succ _, HC.out, HF'.out, HB⟩
        · have hne : g3 ≠ wr.heap.size := by
            rcases hat3 with h | h <;> simp [Value.ownBlock] at h <;> omega
          have HC : Hid (Cells (((w3.setCell ⟨wr.heap.size, 0, none⟩ (.int .i64 c.super)).setCell ⟨wr.heap.size, 1, none⟩ (.slice (some ⟨g3, 0, none⟩) c.fields.length d3)).setCell ⟨wr.heap.size, 2, none⟩ (.slice none 0 0)) wr.heap.size [.int .i64 c.super, .slice (some ⟨g3, 0, none⟩) c.fields.length d3, .slice none 0 0]) := ((RX.s0 _).s1 _).s2 _
          have HF := fz_sets HG.out hne (.int .i64 c.super) (.slice (some ⟨g3, 0, none⟩) c.fields.length d3) (.slice none 0 0)
          have HF' : Hid (Fz _ _ _ _ _ _) := HF
          have HB : Below wr.heap.size wr (((w3.setCell ⟨wr.heap.size, 0, none⟩ (.int .i64 c.super)).setCell ⟨wr.heap.size, 1, none⟩ (.slice (some ⟨g3, 0, none⟩) c.fields.length d3)).setCell ⟨wr.heap.size, 2, none⟩ (.slice none 0 0)) := ((b3.out.setCell (p := ⟨wr.heap.size, 0, none⟩) (Nat.le_refl _) _).setCell (p := ⟨wr.heap.size, 1, none⟩) (Nat.le_refl _) _).setCell (p := ⟨wr.heap.size, 2, none⟩) (Nat.le_refl _) _
          clear HF RX x0 y0 x1 y1 x2 y2 K12 K21
          go_wp2_with fail
          go_meet
          exact ⟨_, _, rfl, Nat.le_refl _, HC.out, HF'.out, HB⟩
      case rest =>
        obtain ⟨kb, vf, rfl, hkb, hK, hF, hbc⟩ := hcut
        obtain ⟨W0, rfl⟩ : ∃ W0, W0 = wr := ⟨_, rfl⟩
        have hkl : kb < wc.heap.size := St.cell_lt hK.out.g0.1
        obtain ⟨z3, t3, rfl⟩ := hF.out.1.form
        obtain ⟨S, hS⟩ : ∃ S, wc.heap.size = S := ⟨_, rfl⟩
        rw [hS] at hF hkl
        have H0 : Hid (MQ QM S S wc (.slice none 0 0) []) := MQ.nil _ _ _ _
        clear HSX
        go_wp2
        go_loopw [6] (fun y u => ∃ (k T2 : Nat) (vm : Value) (lm : List (Meth × Value × Value)), k ≤ c.meths.length ∧ y = .int .i64 (k : Int) ∧ Hid (lm.map (·.1) = c.meths.take k) ∧ Hid (Cells u kb [.int .i64 c.super, .slice (some ⟨z3, 0, none⟩) c.fields.length t3, vm]) ∧ Hid (Fz W0.heap.size S kb u (.slice (some ⟨z3, 0, none⟩) c.fields.length t3) c.fields) ∧ Hid (MQ QM S T2 u vm lm) ∧ T2 ≤ u.heap.size ∧ S ≤ u.heap.size ∧ Below W0.heap.size W0 u) (fun y _ => c.meths.length - (intOf y).toNat)
        case atStart => exact ⟨0, S, _, [], Nat.zero_le _, rfl, rfl, hK.out, hF.out, H0.out, by omega, by omega, hbc⟩
        case round =>
          clear hK hF H0 hbc hS
          obtain ⟨k, T2, vm, lm, hk, rfl, hlm, hKu, hFu, hMQ, hT2, hSu, hbu⟩ := hrel
          have hlen : lm.length = k := by
            have h := congrArg List.length hlm.out
            rw [List.length_map, List.length_take] at h
            omega
          obtain ⟨p0, q0, r0, r1⟩ := FA.out _ hbu
          by_cases hlk : k < c.meths.length
          · have hki : (k : Int) < (c.meths.length : Int) := by omega
            obtain ⟨bm, om, rfl, hBm, va, vc, e0, e1, e2, e3, hmv⟩ := HM.out.get hlk
            obtain ⟨xa, ya, rfl⟩ := hmv.1.form
            obtain ⟨xc, yc, rfl⟩ := front.form hmv.2
            have lm0 : bm < s := by have := cell_lt e0; rw [← hs]; exact this
            have hsu : Below s w wr := (hLC.out.on hbu).lo
            have HMV : Hid (MV front B wr (.slice xa c.meths[k].args.length ya) (.slice xc c.meths[k].code.length yc) c.meths[k]) := hmv.on (Keep.of (by rw [hs]; exact hsu))
            have f0 := (hsu.cell lm0).trans e0
            have f1 := (hsu.cell lm0).trans e1
            have f2 := (hsu.cell lm0).trans e2
            have f3 := (hsu.cell lm0).trans e3
            have hms := HSMM.out _ (List.getElem_mem hlk)
            have HTK : Hid (c.meths.take (k + 1) = c.meths.take k ++ [c.meths[k]]) := List.take_succ_eq_append_getElem hlk
            clear hmv e0 e1 e2 e3 hsu
            generalize c.meths[k] = m at *
            obtain ⟨am, dm, rfl⟩ := hMQ.out.form
            have k2 := hKu.out.g2.1
            have HLM : Hid (lm.length ≤ 1048576) := by show _ ≤ _; omega
            have HLEN : Hid (lm.length = k) := hlen
            clear hlen
            go_upto_region 9 with fail
            go_region_law (first
              | (refine stepAppZ _ rfl (.tmp 42) (.tmp 53) 61 rfl S 52 jm (.agg #[.int .i64 0, .slice none 0 0, .int .i64 0, .slice none 0 0]) 4 64 Try.underlying61 hjm hm0 hm1 hm2 rfl (by decide) (.slice am lm.length dm) lm.length (flatM lm) (by first | rfl | simp [Act.eval, Act.put]) (HO2.out.alloc _) ⟨u2.heap.size, 0, none⟩ 1 1 [.int .i64 m.name, .slice x1 m.args.length y1, .int .i64 m.gives, .slice x2 m.code.length y2] (by first | rfl | simp [Act.eval, Act.put]) rfl (cell_four _ _ _ _ _ _) (by simp [Value.oneCell']) (by have := HLM.out; unfold maxLen; omega) (by have := HLM.out; omega) (by have := HZ2.out; simp; omega) ?_; intro v3 w3 hown3 hgrow3 hnil3 hat3; have HST := copy_step hKu.out hFu.out hMQ.out hT2 hSu hkb hkl hbu HB2.out HM2.out hown3 hgrow3 hat3; obtain ⟨g3, d3, rfl⟩ := HST.2.2.2.2.2.2.2; obtain ⟨l3, m3⟩ := HST.1.g2)
              | (go_simp; go_at_call 60; refine (l4Copy B m _ _ hms _ (HMV.out.on (Keep.of (Below.refl _ _).drew))).mono ?_; rintro e u2 ⟨x1, y1, x2, y2, rfl, ⟨M2, _, _, hgz, _⟩, hb2, hcs⟩; have HB2 : Hid (Below wr.heap.size wr u2) := below_over (Below.refl _ _).drew hb2; have HM2 : Hid (MV front wr.heap.size u2 (.slice x1 m.args.length y1) (.slice x2 m.code.length y2) m) := ⟨hgz.si, hcs⟩; have HO2 : Hid (u2.ownsRow S 52 4 (.slice am lm.length dm) lm.length (flatM lm)) := ownOn hMQ.out.1 HB2.out; have HZ2 : Hid (S ≤ u2.heap.size) := Nat.le_trans hSu HB2.out.size; have k3 := (hKu.out.on HB2.out).g2.1; have k4 := ((hKu.out.on HB2.out).alloc (.cells #[.int .i64 m.name, .slice x1 m.args.length y1, .int .i64 m.gives, .slice x2 m.code.length y2] 52)).g2.1; clear hgz hcs hb2; dsimp only))
            all_goals
              obtain ⟨_, hK', hF', hQ', hT', hS', hb', _⟩ := HST
              have HL' : Hid ((lm ++ [(m, Value.slice x1 m.args.length y1, Value.slice x2 m.code.length y2)]).map (·.1) = c.meths.take (k + 1)) := by show _ = _; rw [List.map_append, hlm.out, HTK.out]; rfl
              have HN : Hid (Value.slice g3 (lm.length + 1) d3 = .slice g3 (k + 1) d3) := by show _ = _; rw [HLEN.out]
              go_wp2
              go_roundw
              case rel => exact ⟨k + 1, _, _, _, by omega, by go_num, HL'.out, hK', hF', hQ', hT', hS', hb'⟩
              case measure => simp [intOf]; omega
          · have hki : ¬ (k : Int) < (c.meths.length : Int) := by omega
            have hlm' : lm.map (·.1) = c.meths := by rw [hlm.out, List.take_of_length_le (by omega)]
            obtain ⟨am, dm, rfl⟩ := hMQ.out.form
            have HCV : Hid (Zw W0.heap.size wr.heap.size (fun u => QC W0.heap.size wr.heap.size u (c, (.slice (some ⟨z3, 0, none⟩) c.fields.length t3), .slice am lm.length dm)) wr) := by
              have h := hMQ.out.sm (fun _ _ _ _ h => h)
              rw [hlm'] at h
              exact CV.zw ⟨hFu.out.1.gint.si, h.weak (by omega)⟩
            have hle2 := hKQ.out.on hbu
            obtain ⟨av, dv, rfl⟩ := hle2.form
            have HQ2 : Hid (KQ QC (s + 3) T wr (.slice av l.length dv) l) := hle2
            have HLC2 : Hid (LC w s (.slice (some ⟨b, o, none⟩) p.length cap) (.slice av l.length dv) wr) := hLC.out.on hbu
            have k0' := hKu.out.g0.1
            have k1' := hKu.out.g1.1
            have k2' := hKu.out.g2.1
            have v0 := HLC2.out.c2.g0.1
            have hll : l.length = i := by
              have h := congrArg List.length hl.out
              rw [List.length_map, List.length_take] at h
              omega
            have HLL : Hid (l.length = i ∧ i < 1048576) := ⟨hll, by omega⟩
            have HVO : Hid (Zo (.slice av l.length dv) W0.heap.size wr.heap.size) := fun g hg => .inl (hKQ.out.1.lt g hg).2
            have HSS : Hid (s + 3 ≤ W0.heap.size ∧ W0.heap.size ≤ wr.heap.size) := ⟨by have := hLC.out.sz; omega, hbu.size⟩
            clear hle2 hll hlen
            go_wp2_with (at_builtin; go_loud (refine wpList_append_own_at _ rfl _ _ 26 rfl (s + 3) 63 jk (.agg #[.int .i64 0, .slice none 0 0, .slice none 0 0]) 3 56 Try.underlying26 hjk hk0 hk1 hk2 rfl (by decide) (.slice av l.length dv) l.length (flatK l) rfl (HQ2.out.1.alloc _) ⟨wr.heap.size, 0, none⟩ 1 1 [.int .i64 c.super, (.slice (some ⟨z3, 0, none⟩) c.fields.length t3), .slice am lm.length dm] rfl rfl (cell_three _ _ _ _ _) (by simp [Value.oneCell']) (by have := HLL.out; unfold maxLen; omega) (by have := HLL.out; omega) (by have := HSS.out; simp; omega) ?_))
            intro v3 w3 hown3 hgrow3 hnil3 hat3
            have hbA : Below wr.heap.size wr (wr.alloc (.cells #[.int .i64 c.super, .slice (some ⟨z3, 0, none⟩) c.fields.length t3, .slice am lm.length dm] 63)) := (Below.refl _ _).alloc (Nat.le_refl _) _
            have hq3 := (HQ2.out.on hbA).snoc (x := (c, .slice (some ⟨z3, 0, none⟩) c.fields.length t3, .slice am lm.length dm)) HSS.out.1 hT HSS.out.2 (HCV.out.on hbA) HVO.out hown3 hgrow3 (by rcases hat3 with h | h; exact .inl h; right; rw [h]; simp)
            obtain ⟨a3, d3, he3⟩ := hq3.form
            have he4 : v3 = .slice a3 (l.length + 1) d3 := by simpa using he3
            subst he4
            clear he3
            have hb3 : Below (s + 3) wr w3 := (hbA.mono (by have := HSS.out; omega)).grown hgrow3 (by have := HSS.out; have := hbA.size; omega) (fun g hg => (HQ2.out.1.lt g hg).1)
            have HLC3 := HLC2.out.low hb3 (by omega)
            obtain ⟨o2, f2⟩ := HLC3.c2.g0
            have HX : Hid (LC w s (.slice (some ⟨b, o, none⟩) p.length cap) _ (w3.setCell ⟨s + 1 + 1, 0, none⟩ (.slice a3 (l.length + 1) d3))) := HLC3.box _
            have HQX : Hid (KQ QC (s + 3) wr.heap.size (w3.setCell ⟨s + 1 + 1, 0, none⟩ (.slice a3 (l.length + 1) d3)) _ _) := hq3.set (b := s + 1 + 1) (by omega) _
            have HTX : wr.heap.size ≤ (w3.setCell ⟨s + 1 + 1, 0, none⟩ (.slice a3 (l.length + 1) d3)).heap.size := by have := hb3.size; simpa using this
            have HLX : Hid ((l ++ [(c, Value.slice (some ⟨z3, 0, none⟩) c.fields.length t3, Value.slice am lm.length dm)]).map (·.1) = p.take (i + 1)) := by show _ = _; rw [List.map_append, hl.out, HL.out]; rfl
            clear hq3 hb3 HLC3 hown3 hgrow3 hnil3 hat3 hbA
            go_wp2
            go_roundw
            case rel => exact ⟨i + 1, _, _, _, by omega, by go_num, HLX.out, HX.out, HQX.out, HTX⟩
            case measure => simp [intOf]; omega
    · have hii : ¬ (i : Int) < (p.length : Int) := by omega
      have hl' : l.map (·.1) = p := by rw [hl.out, List.take_of_length_le (by omega)]
      obtain ⟨av, dv, rfl⟩ := hKQ.out.form
      have HL' : Hid (l.map (·.1) = p) := hl'
      obtain ⟨v0, _⟩ := hLC.out.c2.g0
      obtain ⟨r0, q0⟩ := hLC.out.c1.g0
      have e0 := (hLC.out.c1.s0 (.slice av l.length dv)).g0.1
      have HKX : Hid (KQ QC (s + 3) (wr.setCell ⟨s + 1, 0, none⟩ (.slice av l.length dv)).heap.size (wr.setCell ⟨s + 1, 0, none⟩ (.slice av l.length dv)) (.slice av l.length dv) l) := (hKQ.out.set (b := s + 1) (by omega) _).upto (by simpa using hT)
      have HBX : Hid (Below s w (wr.setCell ⟨s + 1, 0, none⟩ (.slice av l.length dv))) := hLC.out.lo.setCell (p := ⟨s + 1, 0, none⟩) (by show s ≤ s + 1; omega) _
      clear hl'
      go_wp2
      refine bodyPost_ret (v := .agg #[.slice av l.length dv]) (by simp [results, Try.results37, go_sem, e0]) rfl ?_
      first | exact ⟨_, l, rfl, HL'.out, HKX.out, HBX.out⟩ | exact ⟨_, rfl, l, HL'.out, HKX.out, HBX.out⟩ | exact ⟨l, rfl, HL'.out, HKX.out, HBX.out⟩
end Pg
end Go.Proofs.Ytdomclicgajihaa
