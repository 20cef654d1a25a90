/- Contracts of the draws of texts. -/
import Derived.Test.YtbachkjhmenhfaaDr0
import Derived.Test.YtbachkjhmenhfaaCur6
import Derived.Test.YtbachkjhmenhfaaGm3
import Derived.Test.YtbachkjhmenhfaaInt0
import Derived.Deep.RegionWith
namespace Go.Proofs.Ytbachkjhmenhfaa
namespace Cu
open Go.ChangeShapes Go.WideShapes Go.ChangeAt Go.RowKit St

def u8s (l : List UInt8) : List Value := l.map fun c => .int .u8 (c.toNat : Int)
theorem u8s_len (l : List UInt8) : (u8s l).length = l.length := by simp [u8s]
theorem u8s_snoc (l : List UInt8) (c : UInt8) : u8s (l ++ [c]) = u8s l ++ [.int .u8 (c.toNat : Int)] := by simp [u8s]
theorem infoU8 : (Try.prog.info? 5).map (fun i => (i.zero, i.size, i.bytes)) = some (some (.int .u8 0), 1, 1) := by kernel_rfl
theorem conv_own {w : World} {B : Nat} {g n cap : Nat} {l : List UInt8} (h : w.ownsRow B 5 1 (.slice (some ⟨g, 0, none⟩) n cap) n (u8s l)) (hn : n = l.length) :
    (convert 22 9 (.slice (some ⟨g, 0, none⟩) n cap)).run Try.prog w = .ok (.string ⟨l.toArray⟩) w := by
  subst hn
  have hc := @World.ownsRow.cells w B 5 1 _ l.length _ h
  refine run_convert_bytes_back (P := Try.prog) w 22 9 5 ⟨g, 0, none⟩ cap l Try.underlying22 Try.underlying5 Try.underlying9 ?_
  intro j hj
  have := hc (g := g) rfl j (.int .u8 (l[j].toNat : Int)) (by simp [u8s, hj])
  simpa [Go.WideShapes.add_plain, Addr.add] using this
theorem cell_one_new' (W : World) (t : TypeId) (x : Value) : ∀ (j : Nat) u, [x][j]? = some u → (W.alloc (.cells #[x] t)).cell? ((⟨W.heap.size, 0, none⟩ : Addr).add j) = some u := by
  intro j u hj
  match j, hj with
  | 0, hj => simp at hj; subst hj; simp [Addr.add]
theorem at_low {B c : Nat} {u v w : World} {a : Option Addr} {len cap : Nat} (h : At B u v c a len cap) (hc : c < u.heap.size) (hb : Below u.heap.size v w) : At B u w c a len cap :=
  ⟨⟨hb.os.trans h.1.os, hb.tape.trans h.1.tape, hb.output.trans h.1.output, Nat.le_trans h.1.size hb.size, fun k hk hne => (hb.block k hk).trans (h.1.block k hk hne)⟩, h.2.later hb hc⟩
theorem own_cap {w : World} {B e n g cp q : Nat} {xs : List Value} (h : w.ownsRow B e q (.slice (some ⟨g, 0, none⟩) n cp) n xs) : n ≤ cp := by
  obtain ⟨_, ⟨h, _⟩ | ⟨g', cap', cur, hv, _, _, h3, _⟩⟩ := h
  · simp at h
  · injection hv with e1 e2 e3
    subst e3
    exact h3

set_option maxRecDepth 100000 in
set_option maxHeartbeats 2000000 in
theorem drawText_at (B c : Nat) (w0 w : World) (a : Option Addr) (len cap : Nat) (s : ByteArray) (most : Nat) (hs0 : 0 < s.size) (hs1 : s.size ≤ 256) (hm0 : 0 < most) (hm1 : most ≤ 256) (h : At B w0 w c a len cap) (hcw : c < w0.heap.size) :
    Calls Try.prog 36 #[.pointer (some ⟨c, 0, none⟩), .string s, .int .i64 most] w fun e w' => ∃ t : ByteArray, e = .returned (.string t) ∧ t.size < most ∧ At B w0 w' c a len cap := by
  obtain ⟨i0, hif, hz0, hz1, hz2⟩ := info_parts infoU8
  have hws : w0.heap.size ≤ w.heap.size := h.1.size
  have hcc : c < (w.alloc (.cells #[] 5)).heap.size := by simp; omega
  have HO0 : Hid ((w.alloc (.cells #[] 5)).ownsRow w0.heap.size 5 1 (.slice (some ⟨w.heap.size, 0, none⟩) 0 0) 0 (u8s [])) := Pg.ownBase (World.ownsRow_made w #[] 0 (Nat.le_refl _) (by decide) (by simp)) hws
  have HA0 : Hid (At B (w.alloc (.cells #[] 5)) (w.alloc (.cells #[] 5)) c a len cap) := ⟨Touch.refl _ _, h.2.alloc _⟩
  have HT0 : Hid (Touch c w0 (w.alloc (.cells #[] 5))) := h.1.alloc _
  clear h
  go_enter Try.func36, Try.ntmps36
  go_wp2_with fail
  refine (below_at B c _ _ a len cap _ HA0.out).mono ?_
  rintro e w1 ⟨r, rfl, hr0, _, hr2, _, h1⟩
  have hr := hr2 (by omega)
  obtain ⟨n, rfl⟩ := Int.eq_ofNat_of_zero_le hr0
  have HA1 : Hid (At B w0 w1 c a len cap) := ⟨HT0.out.trans h1.1, h1.2⟩
  have HO1 : Hid (w1.ownsRow w0.heap.size 5 1 (.slice (some ⟨w.heap.size, 0, none⟩) 0 0) 0 (u8s [])) := own_touch HO0.out h1.1 hcw
  clear h1 hr2 HA0 HO0 HT0 hcc
  go_wp2
  go_loopw [7, 8] (fun v i wr => ∃ (k : Nat) (l : List UInt8) (g cp : Nat), i = .int .i64 (k : Int) ∧ v = .slice (some ⟨g, 0, none⟩) l.length cp ∧ k + l.length < most ∧ Hid (wr.ownsRow w0.heap.size 5 1 (.slice (some ⟨g, 0, none⟩) l.length cp) l.length (u8s l)) ∧ Hid (At B w0 wr c a len cap)) (fun _ i _ => (intOf i).toNat)
  case atStart => exact ⟨n, [], w.heap.size, 0, rfl, rfl, by simp; omega, HO1.out, HA1.out⟩
  case round =>
    clear HO1 HA1
    obtain ⟨k, l, g, cp, rfl, rfl, hkl, hown, hat⟩ := hrel
    by_cases hlt : (0 : Int) < (k : Int)
    · go_wp2_with fail
      refine (below_at B c _ _ a len cap _ (At.start hat.out.2)).mono ?_
      rintro e w2 ⟨x, rfl, hx0, _, hx2, _, h2⟩
      have hx := hx2 (by omega)
      obtain ⟨m, rfl⟩ := Int.eq_ofNat_of_zero_le hx0
      have hms : m < s.size := by omega
      have HO3 : Hid (w2.ownsRow w0.heap.size 5 1 (.slice (some ⟨g, 0, none⟩) l.length cp) l.length (u8s l)) := own_touch hown.out h2.1 hcw
      have HA3 : Hid (At B w0 w2 c a len cap) := hat.out.step h2
      have hs3 : w0.heap.size ≤ w2.heap.size := HA3.out.1.size
      clear h2 hx2 hown hat
      have HSN : Hid (u8s (l ++ [s[m]]) = u8s l ++ [.int .u8 (s[m].toNat : Int)]) := u8s_snoc _ _
      have HLN : Hid ((l ++ [s[m]]).length = l.length + 1) := by show _ = _; simp
      go_wp2_with (at_builtin; refine wpList_append_own _ rfl _ _ 22 rfl w0.heap.size 5 i0 (.int .u8 0) 1 1 Try.underlying22 hif hz0 hz1 hz2 rfl (by decide) _ _ _ rfl (HO3.out.alloc _) ⟨w2.heap.size, 0, none⟩ 1 1 [.int .u8 (s[m].toNat : Int)] rfl rfl (cell_one_new' _ _ _) (by simp [Value.oneCell']) (by unfold maxLen; omega) (by omega) (by simp; omega) ?_)
      intro v' w4 hown' hgrow hnil
      have hb4 : Below w0.heap.size w2 w4 := ((Below.refl _ _).alloc hs3 _).grown hgrow (by simp; omega) (fun q hq => (HO3.out.lt q hq).1)
      have HA4 : Hid (At B w0 w4 c a len cap) := at_low HA3.out hcw hb4
      have hv' : v' ≠ .slice none 0 0 := fun h => by first | exact hnil h | exact absurd (hnil.1 h).1 (by simp)
      obtain ⟨g', c', rfl⟩ := Pg.own_form hown' hv'
      have HO4 : Hid (w4.ownsRow w0.heap.size 5 1 (.slice (some ⟨g', 0, none⟩) (l.length + 1) c') (l.length + 1) (u8s (l ++ [s[m]]))) := by
        show World.ownsRow _ _ _ _ _ _ _
        rw [HSN.out]; exact hown'
      clear hown' hgrow hnil hv' hb4 HO3 HA3 HSN
      obtain ⟨l', hl'⟩ : ∃ l', l' = l ++ [s[m]] := ⟨_, rfl⟩
      rw [← hl'] at HO4 HLN
      clear hl'
      rw [← HLN.out] at HO4 ⊢
      have hkl' : (k - 1) + l'.length < most := by have := HLN.out; omega
      clear HLN
      go_wp2
      go_roundw
      case rel => exact ⟨k - 1, l', g', c', by go_num, rfl, hkl', HO4.out, HA4.out⟩
      case measure => simp [intOf]; omega
    · obtain rfl : k = 0 := by omega
      have hcv := conv_own hown.out rfl
      go_wp2
      go_ret
      exact ⟨_, rfl, by rw [← Pg.str_len]; simp; omega, hat.out⟩
end Cu
end Go.Proofs.Ytbachkjhmenhfaa
