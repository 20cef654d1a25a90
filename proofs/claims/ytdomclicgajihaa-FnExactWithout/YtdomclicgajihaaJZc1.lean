/- Contracts of both sides' question whether a program and a class of it are right. -/
import Derived.Test.YtdomclicgajihaaJPs0
import Derived.Test.YtdomclicgajihaaJPs1
import Derived.Test.YtdomclicgajihaaJPf0
import Derived.Test.YtdomclicgajihaaJFm0
import Derived.Deep.Cut
import Derived.Deep.RegionHeld3
import Derived.Test.YtdomclicgajihaaJLo0
namespace Go.Proofs.Ytdomclicgajihaa
namespace Pg
open Go.ChangeShapes Go.WideShapes Go.ChangeAt Go.RowKit St

def inB (p : Prg) (t : Int) : Bool := decide (0 ≤ t) && decide (t < (p.length : Int))
theorem okIn {p : Prg} {t : Int} (h : (okP p && inB p t) = true) : okP p = true ∧ 0 ≤ t ∧ t < (p.length : Int) := by
  simp only [Bool.and_eq_true, inB, decide_eq_true_eq] at h
  exact h
end Pg
end Go.Proofs.Ytdomclicgajihaa

/- What MethodOf answers. -/
namespace Go.Proofs.Ytdomclicgajihaa
namespace Pg
open Go.ChangeShapes Go.WideShapes Go.ChangeAt Go.RowKit St

def methF (p : Prg) (t name : Int) : Option Meth := if okP p && inB p t then (match p[t.toNat]? with | none => none | some c => ownF c name) else none
theorem methF_no {p : Prg} {t name : Int} (h : (okP p && inB p t) = false) : methF p t name = none := by unfold methF; rw [h]; rfl
theorem methF_at {p : Prg} {u : Nat} {name : Int} {c : Cls} (h : okP p = true) (hu : u < p.length) (hc : p[u]? = some c) : methF p (u : Int) name = ownF c name := by
  unfold methF
  have : inB p (u : Int) = true := by simp [inB]; omega
  rw [h, this]
  simp [hc]
/-- What MethodOf answers. -/
def MPost (p : Prg) (t name : Int) (w : World) (e : Ending) (w' : World) : Prop :=
  ((∃ m x1 y1 x2 y2, methF p t name = some m ∧ e = .returned (.tuple #[.agg #[.int .i64 m.name, .slice x1 m.args.length y1, .int .i64 m.gives, .slice x2 m.code.length y2], .bool true]) ∧ AnsM w.heap.size w' (.slice x1 m.args.length y1) (.slice x2 m.code.length y2) m) ∨
   (methF p t name = none ∧ e = .returned (.tuple #[.agg #[.int .i64 0, .slice none 0 0, .int .i64 0, .slice none 0 0], .bool false]))) ∧ Below w.heap.size w w'

end Pg
end Go.Proofs.Ytdomclicgajihaa

/- Contracts of both sides' MethodOf. -/
namespace Go.Proofs.Ytdomclicgajihaa
namespace Pg
open Go.ChangeShapes Go.WideShapes Go.ChangeAt Go.RowKit St

/-- What holds while the method is copied: the answer's own variable may be written, the method's lies as it was. -/
def OwnAt (w : World) (k : Nat) (c0 c1 c2 c3 : Value) (x : World) : Prop := Below w.heap.size w x ∧ (∃ v0 v1 v2 v3, Cells x (w.heap.size + 1) [v0, v1, v2, v3]) ∧ Cells x k [c0, c1, c2, c3]
theorem OwnAt.all {w x : World} {k : Nat} {c0 c1 c2 c3 : Value} (h : OwnAt w k c0 c1 c2 c3 x) : OwnAt w k c0 c1 c2 c3 x ∧ x.cell? ⟨k, 0, none⟩ = some c0 ∧ x.cell? ⟨k, 1, none⟩ = some c1 ∧ x.cell? ⟨k, 2, none⟩ = some c2 ∧ x.cell? ⟨k, 3, none⟩ = some c3 :=
  ⟨h, h.2.2.g0.1, h.2.2.g1.1, h.2.2.g2.1, h.2.2.g3.1⟩
theorem OwnAt.drew {w x : World} {k : Nat} {c0 c1 c2 c3 : Value} (h : OwnAt w k c0 c1 c2 c3 x) : OwnAt w k c0 c1 c2 c3 x.drew :=
  have hd : Below x.heap.size x x.drew := (Below.refl _ _).drew
  ⟨h.1.drew, h.2.1.elim fun v0 h => h.elim fun v1 h => h.elim fun v2 h => h.elim fun v3 h => ⟨v0, v1, v2, v3, h.on hd⟩, h.2.2.on hd⟩
theorem OwnAt.on {w x x' : World} {k : Nat} {c0 c1 c2 c3 : Value} {R : Prop} (hb : Below x.heap.size x x') (hh : OwnAt w k c0 c1 c2 c3 x ∧ R) : OwnAt w k c0 c1 c2 c3 x' :=
  have h := hh.1
  ⟨below_over h.1 hb, h.2.1.elim fun v0 h => h.elim fun v1 h => h.elim fun v2 h => h.elim fun v3 h => ⟨v0, v1, v2, v3, h.on hb⟩, h.2.2.on hb⟩
theorem OwnAt.below {w x : World} {k : Nat} {c0 c1 c2 c3 : Value} {R : Prop} (h : OwnAt w k c0 c1 c2 c3 x ∧ R) : Below w.heap.size w x := h.1.1
theorem OwnAt.set {w x : World} {k : Nat} {c0 c1 c2 c3 n0 n1 n2 n3 : Value} {R : Prop} (hk : k ≠ w.heap.size + 1) (hh : OwnAt w k c0 c1 c2 c3 x ∧ R) : OwnAt w k c0 c1 c2 c3 ((((x.setCell ⟨w.heap.size + 1, 0, none⟩ n0).setCell ⟨w.heap.size + 1, 1, none⟩ n1).setCell ⟨w.heap.size + 1, 2, none⟩ n2).setCell ⟨w.heap.size + 1, 3, none⟩ n3) :=
  have h := hh.1
  ⟨(((h.1.setCell (p := ⟨w.heap.size + 1, 0, none⟩) (by simp) _).setCell (p := ⟨w.heap.size + 1, 1, none⟩) (by simp) _).setCell (p := ⟨w.heap.size + 1, 2, none⟩) (by simp) _).setCell (p := ⟨w.heap.size + 1, 3, none⟩) (by simp) _,
   h.2.1.elim fun v0 h => h.elim fun v1 h => h.elim fun v2 h => h.elim fun v3 h => ⟨n0, n1, n2, n3, (((h.s0 n0).s1 n1).s2 n2).s3 n3⟩,
   (((h.2.2.far ⟨w.heap.size + 1, 0, none⟩ n0 (Ne.symm hk)).far ⟨w.heap.size + 1, 1, none⟩ n1 (Ne.symm hk)).far ⟨w.heap.size + 1, 2, none⟩ n2 (Ne.symm hk)).far ⟨w.heap.size + 1, 3, none⟩ n3 (Ne.symm hk)⟩

set_option maxRecDepth 100000 in
set_option maxHeartbeats 4000000 in
/-- A method that is copied: its rows in blocks of their own. -/
theorem copiedMethod (B : Nat) (m : Meth) (f1 f2 : Option Addr) (g1 g2 : Nat) (hms : SmallM m) (w : World) (hx : MV front B w (.slice f1 m.args.length g1) (.slice f2 m.code.length g2) m) :
    Calls Try.prog 67 #[.agg #[.int .i64 m.name, .slice f1 m.args.length g1, .int .i64 m.gives, .slice f2 m.code.length g2]] w fun e w' => ∃ x1 y1 x2 y2, e = .returned (.agg #[.int .i64 m.name, .slice x1 m.args.length y1, .int .i64 m.gives, .slice x2 m.code.length y2]) ∧ AnsM w.heap.size w' (.slice x1 m.args.length y1) (.slice x2 m.code.length y2) m ∧ Below w.heap.size w w' ∧ CS w.heap.size w' (.slice x2 m.code.length y2) m.code := by
  have hms1 := hms.1
  have hms2 := hms.2
  have HXV : Hid (MV front B w (.slice f1 m.args.length g1) (.slice f2 m.code.length g2) m) := hx
  obtain ⟨V, hV⟩ : ∃ V, V = (w.alloc (.cells #[.int .i64 m.name, .slice f1 m.args.length g1, .int .i64 m.gives, .slice f2 m.code.length g2] 52)).alloc (.cells #[.int .i64 0, .slice none 0 0, .int .i64 0, .slice none 0 0] 52) := ⟨_, rfl⟩
  have hwV : Below w.heap.size w V := by rw [hV]; exact ((Below.refl _ _).alloc (Nat.le_refl _) _).alloc (by simp) _
  have OV : Cells V w.heap.size [.int .i64 m.name, .slice f1 m.args.length g1, .int .i64 m.gives, .slice f2 m.code.length g2] := by rw [hV]; exact (Cells.new w _ rfl _ _).alloc _
  have R0 : Cells V (w.heap.size + 1) [.int .i64 0, .slice none 0 0, .int .i64 0, .slice none 0 0] := by rw [hV]; exact Cells.new (w.alloc _) _ (by simp) _ _
  have KV : OwnAt w w.heap.size (.int .i64 m.name) (.slice f1 m.args.length g1) (.int .i64 m.gives) (.slice f2 m.code.length g2) V := ⟨hwV, ⟨_, _, _, _, R0⟩, OV⟩
  have HKN : Hid (w.heap.size ≠ w.heap.size + 1) := by show _ ≠ _; omega
  have KD := KV.drew.all
  clear hx hms R0
  go_enter Try.func67, Try.ntmps67
  go_upto_region 1 with fail
  rw [← hV]
  clear hV OV
  go_region_held3 (fun x => OwnAt w w.heap.size (.int .i64 m.name) (.slice f1 m.args.length g1) (.int .i64 m.gives) (.slice f2 m.code.length g2) x ∧ x.cell? ⟨w.heap.size, 0, none⟩ = some (.int .i64 m.name) ∧ x.cell? ⟨w.heap.size, 1, none⟩ = some (.slice f1 m.args.length g1) ∧ x.cell? ⟨w.heap.size, 2, none⟩ = some (.int .i64 m.gives) ∧ x.cell? ⟨w.heap.size, 3, none⟩ = some (.slice f2 m.code.length g2))
    (first | exact KD | assumption | exact OwnAt.all (OwnAt.set HKN.out (by assumption)))
    (first
      | (go_at_call 44; refine (cloneInts B f1 g1 m.args hms1 _ ?hx).mono ?_; (case hx => exact SI.on HXV.out.1 (Keep.of (OwnAt.below (by assumption)))); rintro e wA ⟨v4, rfl, hv4, hbA⟩; obtain ⟨a4, c4, rfl⟩ := hv4.form; have KA := OwnAt.all (OwnAt.on hbA (by assumption)); obtain ⟨s0, s1, s2, s3, RX⟩ := KA.1.2.1; obtain ⟨r0, q0⟩ := RX.g0; obtain ⟨r1, q1⟩ := RX.g1; obtain ⟨r2, q2⟩ := RX.g2; obtain ⟨r3, q3⟩ := RX.g3)
      | (go_at_call 82; refine (cloneCode B _ m.code hms2 _ ?hx).mono ?_; (case hx => exact front.on HXV.out.2 (Keep.of (OwnAt.below (by assumption)))); rintro e wB ⟨v5, rfl, hv5, hbB⟩; obtain ⟨a5, c5, rfl⟩ := front.form hv5; have KB := OwnAt.all (OwnAt.on hbB (by assumption)); obtain ⟨s0, s1, s2, s3, RX⟩ := KB.1.2.1; obtain ⟨r0, q0⟩ := RX.g0; obtain ⟨r1, q1⟩ := RX.g1; obtain ⟨r2, q2⟩ := RX.g2; obtain ⟨r3, q3⟩ := RX.g3))
  have R5 := (((RX.s0 (.int .i64 m.name)).s1 (.slice a4 m.args.length c4)).s2 (.int .i64 m.gives)).s3 (.slice a5 m.code.length c5)
  obtain ⟨e0, _⟩ := R5.g0
  obtain ⟨e1, _⟩ := R5.g1
  obtain ⟨e2, _⟩ := R5.g2
  obtain ⟨e3, _⟩ := R5.g3
  have hsV : w.heap.size + 2 ≤ V.drew.heap.size := by
    obtain ⟨_, _, _, _, h0⟩ := KD.1.2.1
    have h1 := cell_lt h0.g0.1
    simp at h1 ⊢
    omega
  have hsA : w.heap.size + 2 ≤ wA.heap.size := Nat.le_trans hsV hbA.size
  have hk : ∀ (x : World) (i : Nat) (v : Value), Keep (w.heap.size + 2) x (x.setCell ⟨w.heap.size + 1, i, none⟩ v) := fun x i v => Keep.set x (p := ⟨w.heap.size + 1, i, none⟩) (by simp) v
  have hkk := (((hk wB 0 (.int .i64 m.name)).trans (hk _ 1 (.slice a4 m.args.length c4))).trans (hk _ 2 (.int .i64 m.gives))).trans (hk _ 3 (.slice a5 m.code.length c5))
  have HMVF : Hid (AnsM w.heap.size ((((wB.setCell ⟨w.heap.size + 1, 0, none⟩ (.int .i64 m.name)).setCell ⟨w.heap.size + 1, 1, none⟩ (.slice a4 m.args.length c4)).setCell ⟨w.heap.size + 1, 2, none⟩ (.int .i64 m.gives)).setCell ⟨w.heap.size + 1, 3, none⟩ (.slice a5 m.code.length c5)) (.slice a4 m.args.length c4) (.slice a5 m.code.length c5) m) :=
    ⟨wA.heap.size, by omega, by have := hkk.size; have := hbB.size; omega, ((hv4.on hbB).keep hkk hsV).weak (by omega) (Nat.le_refl _), ((CZ.of hv5).keep hkk hsA).weak (Nat.le_refl _) hkk.size⟩
  have HCSF : Hid (CS w.heap.size ((((wB.setCell ⟨w.heap.size + 1, 0, none⟩ (.int .i64 m.name)).setCell ⟨w.heap.size + 1, 1, none⟩ (.slice a4 m.args.length c4)).setCell ⟨w.heap.size + 1, 2, none⟩ (.int .i64 m.gives)).setCell ⟨w.heap.size + 1, 3, none⟩ (.slice a5 m.code.length c5)) (.slice a5 m.code.length c5) m.code) := front.weak (front.on hv5 (hkk.mono hsA)) (by omega)
  have HBF : Hid (Below w.heap.size w ((((wB.setCell ⟨w.heap.size + 1, 0, none⟩ (.int .i64 m.name)).setCell ⟨w.heap.size + 1, 1, none⟩ (.slice a4 m.args.length c4)).setCell ⟨w.heap.size + 1, 2, none⟩ (.int .i64 m.gives)).setCell ⟨w.heap.size + 1, 3, none⟩ (.slice a5 m.code.length c5))) := (OwnAt.set (k := w.heap.size) HKN.out KB).1
  clear hkk hk hv4 hv5 hbA hbB R5 RX KA KB KD KV hsV hsA
  go_wp2
  refine bodyPost_ret (v := .agg #[.int .i64 m.name, .slice a4 m.args.length c4, .int .i64 m.gives, .slice a5 m.code.length c5]) (by simp [results, Try.results67, go_sem, e0, e1, e2, e3]) rfl ?_
  exact ⟨a4, c4, a5, c5, rfl, HMVF.out, HBF.out, HCSF.out⟩

end Pg
end Go.Proofs.Ytdomclicgajihaa

/- The contract of the program's copying of a row of methods: its numbers at places of their own. -/
namespace Go.Proofs.Ytdomclicgajihaa
namespace Pg
open Go.ChangeShapes Go.WideShapes Go.ChangeAt Go.RowKit St

theorem adMl_congr {u w : World} {g : Nat} : ∀ (ms : List Meth) (o : Nat), (∀ j, j < ms.length → cellD w ⟨g, o + j * 4 + 1, none⟩ = cellD u ⟨g, o + j * 4 + 1, none⟩ ∧ cellD w ⟨g, o + j * 4 + 3, none⟩ = cellD u ⟨g, o + j * 4 + 3, none⟩) → adMl w g o ms = adMl u g o ms
  | [], _, _ => rfl
  | m :: ms, o, h => by
    have h0 := h 0 (by simp)
    simp only [Nat.zero_mul, Nat.add_zero] at h0
    simp only [adMl, adM]
    rw [h0.1, h0.2, adMl_congr ms (o + 4) (fun j hj => by
      have := h (j + 1) (by simp; omega)
      rw [show o + (j + 1) * 4 = o + 4 + j * 4 by omega] at this
      exact this)]
theorem adN_nodup (b o n' cap n : Nat) : (adN (.slice (some ⟨b, o, none⟩) n' cap) n).Nodup := by
  rw [adN_at]
  refine List.pairwise_map.2 (List.Pairwise.imp (fun {a b} h e => h ?_) (List.nodup_range (n := n)))
  injection e with _ e
  omega
theorem gz_ad {B1 B2 : Nat} {w : World} {v : Value} {l : List Int} (h : GZ B1 B2 w v l) : (adN v l.length).Nodup ∧ ∀ p ∈ adN v l.length, B1 ≤ p.block ∧ p.block < B2 := by
  rcases h with ⟨g, c, rfl, h1, h2, _⟩ | ⟨rfl, rfl⟩
  · refine ⟨?_, fun p hp => ?_⟩
    · exact adN_nodup _ _ _ _ _
    · obtain ⟨e, _⟩ := adN_mem hp
      omega
  · exact ⟨by simp [adN], fun p hp => by simp [adN] at hp⟩
theorem cz_ad {B1 B2 : Nat} {w : World} {v : Value} {l : List Tx.Ins} (h : CZ B1 B2 w v l) : (adN v (l.length * 3)).Nodup ∧ ∀ p ∈ adN v (l.length * 3), B1 ≤ p.block ∧ p.block < B2 := by
  rcases h with ⟨g, c, rfl, h1, h2, _⟩ | ⟨rfl, rfl⟩
  · refine ⟨?_, fun p hp => ?_⟩
    · exact adN_nodup _ _ _ _ _
    · obtain ⟨e, _⟩ := adN_mem hp
      omega
  · exact ⟨by simp [adN], fun p hp => by simp [adN] at hp⟩
/-- The addresses of a row that is being filled: of its own places those ahead of o, and blocks from S up to T. -/
def Apt (g o S T : Nat) (L : List Addr) : Prop := L.Nodup ∧ ∀ p ∈ L, (p.block = g ∧ p.off < o) ∨ (S ≤ p.block ∧ p.block < T)
theorem Apt.more {g o o' S T T' : Nat} {L : List Addr} (h : Apt g o S T L) (ho : o ≤ o') (hT : T ≤ T') : Apt g o' S T' L := ⟨h.1, fun p hp => by rcases h.2 p hp with h | h; exact .inl ⟨h.1, by omega⟩; exact .inr ⟨h.1, by omega⟩⟩
theorem Apt.app {g o o' S T T' : Nat} {L L' : List Addr} (h : Apt g o S T L) (hg : g < S) (hT : S ≤ T) (hTT : T ≤ T') (hoo : o ≤ o') (h1 : L'.Nodup) (h2 : ∀ p ∈ L', (p.block = g ∧ o ≤ p.off ∧ p.off < o') ∨ (T ≤ p.block ∧ p.block < T')) : Apt g o' S T' (L ++ L') := by
  refine ⟨List.nodup_append.2 ⟨h.1, h1, fun a ha b hb e => ?_⟩, fun p hp => ?_⟩
  · subst e
    rcases h.2 a ha with k | k <;> rcases h2 a hb with l | l <;> omega
  · rcases List.mem_append.1 hp with k | k
    · exact (h.more hoo hTT).2 p k
    · rcases h2 p k with l | l
      · exact .inl ⟨l.1, l.2.2⟩
      · exact .inr ⟨by omega, l.2⟩
theorem adM_ans {w : World} {g o T : Nat} {m : Meth} {va vc : Value} (hg : g < T) (ha : AnsM T w va vc m) (e1 : cellD w ⟨g, o + 1, none⟩ = va) (e3 : cellD w ⟨g, o + 3, none⟩ = vc) : (adM w g o m).Nodup ∧ ∀ p ∈ adM w g o m, (p.block = g ∧ o ≤ p.off ∧ p.off < o + 4) ∨ (T ≤ p.block ∧ p.block < w.heap.size) := by
  obtain ⟨M, hM, hM2, hz, hc⟩ := ha
  obtain ⟨n1, b1⟩ := gz_ad hz
  obtain ⟨n2, b2⟩ := cz_ad hc
  unfold adM
  rw [e1, e3]
  refine ⟨List.nodup_cons.2 ⟨fun hp => ?_, List.nodup_append.2 ⟨n1, List.nodup_cons.2 ⟨fun hp => ?_, n2⟩, fun a ha b hb e => ?_⟩⟩, fun p hp => ?_⟩
  · rcases List.mem_append.1 hp with k | k
    · have := b1 _ k; simp at this; omega
    · rcases List.mem_cons.1 k with k | k
      · injection k with _ k; omega
      · have := b2 _ k; simp at this; omega
  · have := b2 _ hp; simp at this; omega
  · subst e
    have h1 := b1 a ha
    rcases List.mem_cons.1 hb with k | k
    · subst k; simp at h1; omega
    · have := b2 a k; omega
  · simp only [List.mem_cons, List.mem_append] at hp
    rcases hp with rfl | hp | rfl | hp
    · exact .inl ⟨rfl, by simp, by simp⟩
    · have := b1 p hp; exact .inr (by omega)
    · exact .inl ⟨rfl, by simp, by simp⟩
    · have := b2 p hp; exact .inr (by omega)
end Pg
end Go.Proofs.Ytdomclicgajihaa
