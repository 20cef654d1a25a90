/- The contract of the bending of a text. -/
import Derived.Test.YtnlanikjlokboaaGreatDoorBend0
import Derived.Test.YtnlanikjlokboaaGreatDoorRead0
namespace Go.Proofs.YtnlanikjlokboaaGreatDoor
namespace Cu
open Go.ChangeShapes Go.WideShapes Go.ChangeAt Go.RowKit St

set_option maxRecDepth 100000 in
set_option maxHeartbeats 1000000 in
theorem bend_at (B c : Nat) (w0 w : World) (a : Option Addr) (len cap : Nat) (h : At B w0 w c a len cap) (s sg : ByteArray) (hs : s.size ≤ 1000) (hg0 : 0 < sg.size) (hg1 : sg.size ≤ 100) :
    Calls Tryz.prog 18 #[.pointer (some ⟨c, 0, none⟩), .string s, .string sg] w fun e w' => ∃ t : ByteArray, e = .returned (.string t) ∧ t.size ≤ s.size + 3 ∧ At B w0 w' c a len cap := by
  obtain ⟨i0, hi, hz0, hz1, hz2⟩ := info_parts infoB
  have hcw : c < w.heap.size := h.2.2.1
  have hw0 : w0.heap.size ≤ w.heap.size := h.1.size
  have hcv := Lib.run_convert_string_bytes (P := Tryz.prog) w 9 22 5 s Tryz.underlying9 Tryz.underlying22 Tryz.underlying5
  have HB : Hid (Br c w.heap.size (Lib.bytesWorld w 5 s) (.slice (some ⟨w.heap.size, 0, none⟩) s.size (grownCap w s.size 0 5)) s.size) := br_bytes c w hcw s hs
  have HA : Hid (At B w0 (Lib.bytesWorld w 5 s) c a len cap) := ⟨h.1.trans (touch_below (below_bytesWorld w _ s)), h.2.later (below_bytesWorld w _ s) hcw⟩
  clear h
  generalize Lib.bytesWorld w 5 s = wb at hcv HB HA
  generalize grownCap w s.size 0 5 = cp at hcv HB
  go_enter Tryz.func18, Tryz.ntmps18
  go_wp2_with fail
  refine (below_at B c _ _ a len cap _ (At.start HA.out.2)).mono ?_
  rintro e w1 ⟨r, rfl, hr0, hr1, hr2, hr3, h1⟩
  have hr := hr2 (by omega)
  clear hr1 hr2 hr3 hcv
  obtain ⟨q0, rfl⟩ := Int.eq_ofNat_of_zero_le hr0
  have HB1 : Hid (Br c w.heap.size w1 (.slice (some ⟨w.heap.size, 0, none⟩) s.size cp) s.size) := HB.out.touch h1.1
  have HA1 : Hid (At B w0 w1 c a len cap) := HA.out.step h1
  clear h1 HB HA
  go_wp2_with fail
  go_loopw [7, 8] (fun b nv wr => ∃ (m q : Nat) (v0 : Value), v0 = b ∧ nv = .int .i64 q ∧ q ≤ 2 ∧ m + q ≤ s.size + 2 ∧ Hid (Br c w.heap.size wr v0 m) ∧ Hid (At B w0 wr c a len cap)) (fun _ nv _ => (intOf nv).toNat)
  case atStart => exact ⟨s.size, q0, _, rfl, rfl, by omega, by omega, HB1.out, HA1.out⟩
  case round =>
    obtain ⟨m, q, v, rfl, rfl, hq2, hmq, hbr, hat⟩ := hrel
    have hbr' := hbr.out
    obtain ⟨g, o, cp', rfl, hm1, hm2, hL, hgw, hgc, _⟩ := hbr'
    by_cases hq : 0 < q
    · have hqi : (0 : Int) < (q : Int) := by omega
      by_cases hm : 0 < m
      · have hmi : (0 : Int) < (m : Int) := by omega
        go_wp2_with fail
        refine (below_at B c _ _ a len cap _ (At.start hat.out.2)).mono ?_
        rintro e w2 ⟨k, rfl, hk0, hk1, hk2, hk3, h2⟩
        have hk := hk2 (by omega)
        clear hk1 hk2 hk3
        have HB2 : Hid (Br c w.heap.size w2 (.slice (some ⟨g, o, none⟩) m cp') m) := hbr.out.touch h2.1
        have HA2 : Hid (At B w0 w2 c a len cap) := hat.out.step h2
        clear h2 hbr hat
        obtain ⟨k, rfl⟩ := Int.eq_ofNat_of_zero_le hk0
        go_wp2_with fail
        refine (below_at B c _ _ a len cap _ (At.start HA2.out.2)).mono ?_
        rintro e w3 ⟨r, rfl, hr0, hr1, hr2, hr3, h3⟩
        have hr := hr2 (by omega)
        clear hr1 hr2 hr3
        have HB3 : Hid (Br c w.heap.size w3 (.slice (some ⟨g, o, none⟩) m cp') m) := HB2.out.touch h3.1
        have HA3 : Hid (At B w0 w3 c a len cap) := HA2.out.step h3
        clear h3 HB2 HA2
        have hcase : r = 0 ∨ r = 1 ∨ r = 2 ∨ r = 3 := by omega
        rcases hcase with rfl | rfl | rfl | rfl
        · go_wp2_with fail
          refine (below_at B c _ _ a len cap _ (At.start HA3.out.2)).mono ?_
          rintro e w4 ⟨u, rfl, hu0, hu1, hu2, hu3, h4⟩
          have hu := hu2 (by omega)
          clear hu1 hu2 hu3
          have HB4 : Hid (Br c w.heap.size w4 (.slice (some ⟨g, o, none⟩) m cp') m) := HB3.out.touch h4.1
          have HA4 : Hid (At B w0 w4 c a len cap) := HA3.out.step h4
          clear h4 HB3 HA3
          obtain ⟨u, rfl⟩ := Int.eq_ofNat_of_zero_le hu0
          have hul : u < sg.size := by omega
          have hsu := sg[u].toNat_lt
          obtain ⟨_, _, _, hv, _, _, _, _, _, hcl⟩ := HB4.out
          injection hv with e1 e2 e3
          simp at e1
          obtain ⟨rfl, rfl⟩ := e1
          obtain ⟨z, hz, _, _, zf⟩ := hcl k (by omega)
          clear hcl e2 e3
          go_wp2
          go_roundw
          case rel =>
            refine ⟨m, q - 1, _, rfl, by go_num, by omega, by omega, HB4.out.set (by omega) _ (by omega) (by omega), ?_⟩
            exact ⟨HA4.out.1.setNew (by simp; omega) _, HA4.out.2.setFar (by simp; omega) (by have := HA4.out.2.1; have := HA4.out.2.2.1; simp; omega) _⟩
          case measure => simp [intOf]; omega
        · go_wp2
          go_roundw
          case rel => exact ⟨k, q - 1, _, rfl, by go_num, by omega, by omega, HB3.out.pre (by omega), HA3.out⟩
          case measure => simp [intOf]; omega
        · obtain ⟨xs, hxl, hxc, hxb⟩ := HB3.out.nums
          have hkm : k < m := by omega
          have hk1 : (k : Int) + 1 ≤ (m : Int) := by omega
          have hkc : k ≤ cp' := by omega
          have hk1n : k + 1 ≤ m := by omega
          have hk1c : k + 1 ≤ cp' := by omega
          have HX : Hid (∀ i, i < m → w3.cell? ⟨g, o + i, none⟩ = some (.int .u8 (xs.getD i 0))) := hxc
          have HXB : Hid (∀ x ∈ xs, 0 ≤ x ∧ x ≤ 255) := hxb
          clear hxc hxb
          have HN1 : Hid (∀ u, Below w3.heap.size w3 u → ∀ j x, (((xs.drop 0).take k).map (Value.int .u8))[j]? = some x → u.cell? ((⟨g, o + 0, none⟩ : Addr).add j) = some x) := fun u hu => news_at hxl (fun i hi => (hu.cell (cell_lt (HX.out i hi))).trans (HX.out i hi)) 0 k
          have hc3 : c < w3.heap.size := HA3.out.2.2.1
          have hLw : w.heap.size ≤ w3.heap.size := by
            obtain ⟨_, _, _, hv, _, _, hl, hg, _⟩ := HB3.out
            omega
          by_cases hcp : k + 1 = cp'
          · have hmk : m = k + 1 := by omega
            subst hcp
            subst hmk
            have hkki : (k : Int) ≤ (k : Int) + 1 := by omega
            have hwr : IntKind.i64.wrap ((k : Int) + 1) = (k : Int) + 1 := by simp [IntKind.wrap, IntKind.signed, IntKind.bits]; omega
            have htn : ((k : Int) + 1).toNat = k + 1 := by omega
            have hk0' : (0 : Int) ≤ (k : Int) + 1 := by omega
            go_wp2_with fail
            go_region_law (first | (refine step_append_any _ rfl (.tmp 47) (.tmp 50) 22 rfl w3.heap.size 5 i0 (.int .u8 0) 1 1 Tryz.underlying22 hi hz0 hz1 hz2 rfl (by decide) (.slice (some ⟨w3.heap.size, 0, none⟩) 0 0) 0 [] (by simp [Act.eval]) (World.ownsRow_made w3 #[] 0 (Nat.le_refl _) (by decide) (by simp)) ⟨g, o + 0, none⟩ k (k + 1) (((xs.drop 0).take k).map (Value.int .u8)) (by simp [Act.eval]) (by simp; omega) (HN1.out _ (by go_grown)) (ints_oneCell _ _) (by unfold maxLen; omega) (by omega) (by simp) ?_; intro v1 w4 hown1 hgrow1 hnil1; have hb4 : Below w3.heap.size w3 w4 := ((Below.refl _ _).alloc (Nat.le_refl _) _).drew.grown hgrow1 (by simp) (fun q hq => by simp [Value.ownBlock] at hq; omega)) | (refine step_append_any _ rfl (.tmp 51) (.tmp 55) 22 rfl w3.heap.size 5 i0 (.int .u8 0) 1 1 Tryz.underlying22 hi hz0 hz1 hz2 rfl (by decide) v1 (0 + k) _ (by simp [Act.eval]) hown1 ⟨g, o, none⟩ 0 0 ([] : List Value) (by simp [Act.eval]) rfl (fun j x hx => by simp at hx) (fun u hu => by simp at hu) (by unfold maxLen; omega) (by omega) hb4.size ?_; intro v2 w5 hown2 hgrow2 hnil2))
            have hb5 : Below w3.heap.size w3 w5 := hb4.grown hgrow2 hb4.size (fun q hq => (hown1.lt q hq).1)
            have hv2 : v2 ≠ .slice none 0 0 := fun e => by
              have h1 := (hnil2.1 e).1
              rw [hnil1] at h1
              simp at h1
            have HBR : Hid (Br c w.heap.size w5 v2 (0 + k + (0))) := br_of_own (xs := (xs.drop 0).take k ++ ([] : List Int)) (by rw [List.map_append]; simpa using hown2) hv2 hLw hc3 (fun x hx => HXB.out x (by
              rcases List.mem_append.1 hx with hx | hx
              · exact List.mem_of_mem_drop (List.mem_of_mem_take hx)
              · simp at hx))
            have HAT : Hid (At B w0 w5 c a len cap) := ⟨HA3.out.1.trans (touch_below hb5), HA3.out.2.later hb5 hc3⟩
            clear hown1 hown2 hgrow1 hgrow2 hnil1 hnil2 hb4 hb5 hv2
            go_wp2
            go_roundw
            case rel => exact ⟨_, q - 1, v2, rfl, by go_num, by omega, by omega, HBR.out, HAT.out⟩
            case measure => simp [intOf]; omega
          · have hcpe : ¬ cp' = k + 1 := fun e => hcp e.symm
            have hwr : IntKind.i64.wrap ((k : Int) + 1) = (k : Int) + 1 := by simp [IntKind.wrap, IntKind.signed, IntKind.bits]; omega
            have htn : ((k : Int) + 1).toNat = k + 1 := by omega
            have hk0' : (0 : Int) ≤ (k : Int) + 1 := by omega
            have HN2 : Hid (∀ u, Below w3.heap.size w3 u → ∀ j x, (((xs.drop (k + 1)).take (m - (k + 1))).map (Value.int .u8))[j]? = some x → u.cell? ((⟨g, o + (k + 1), none⟩ : Addr).add j) = some x) := fun u hu => news_at hxl (fun i hi => (hu.cell (cell_lt (HX.out i hi))).trans (HX.out i hi)) (k + 1) (m - (k + 1))
            go_wp2_with fail
            go_region_law (first | (refine step_append_any _ rfl (.tmp 47) (.tmp 50) 22 rfl w3.heap.size 5 i0 (.int .u8 0) 1 1 Tryz.underlying22 hi hz0 hz1 hz2 rfl (by decide) (.slice (some ⟨w3.heap.size, 0, none⟩) 0 0) 0 [] (by simp [Act.eval]) (World.ownsRow_made w3 #[] 0 (Nat.le_refl _) (by decide) (by simp)) ⟨g, o + 0, none⟩ k cp' (((xs.drop 0).take k).map (Value.int .u8)) (by simp [Act.eval]) (by simp; omega) (HN1.out _ (by go_grown)) (ints_oneCell _ _) (by unfold maxLen; omega) (by omega) (by simp) ?_; intro v1 w4 hown1 hgrow1 hnil1; have hb4 : Below w3.heap.size w3 w4 := ((Below.refl _ _).alloc (Nat.le_refl _) _).drew.grown hgrow1 (by simp) (fun q hq => by simp [Value.ownBlock] at hq; omega)) | (refine step_append_any _ rfl (.tmp 51) (.tmp 55) 22 rfl w3.heap.size 5 i0 (.int .u8 0) 1 1 Tryz.underlying22 hi hz0 hz1 hz2 rfl (by decide) v1 (0 + k) _ (by simp [Act.eval]) hown1 ⟨g, o + (k + 1), none⟩ (m - (k + 1)) (cp' - (k + 1)) (((xs.drop (k + 1)).take (m - (k + 1))).map (Value.int .u8)) (by simp [Act.eval]) (by simp; omega) (HN2.out _ hb4) (ints_oneCell _ _) (by unfold maxLen; omega) (by omega) hb4.size ?_; intro v2 w5 hown2 hgrow2 hnil2))
            have hb5 : Below w3.heap.size w3 w5 := hb4.grown hgrow2 hb4.size (fun q hq => (hown1.lt q hq).1)
            have hv2 : v2 ≠ .slice none 0 0 := fun e => by
              have h1 := (hnil2.1 e).1
              rw [hnil1] at h1
              simp at h1
            have HBR : Hid (Br c w.heap.size w5 v2 (0 + k + (m - (k + 1)))) := br_of_own (xs := (xs.drop 0).take k ++ (xs.drop (k + 1)).take (m - (k + 1))) (by rw [List.map_append]; simpa using hown2) hv2 hLw hc3 (fun x hx => HXB.out x (by
              rcases List.mem_append.1 hx with hx | hx
              · exact List.mem_of_mem_drop (List.mem_of_mem_take hx)
              · exact List.mem_of_mem_drop (List.mem_of_mem_take hx)))
            have HAT : Hid (At B w0 w5 c a len cap) := ⟨HA3.out.1.trans (touch_below hb5), HA3.out.2.later hb5 hc3⟩
            clear hown1 hown2 hgrow1 hgrow2 hnil1 hnil2 hb4 hb5 hv2
            go_wp2
            go_roundw
            case rel => exact ⟨_, q - 1, v2, rfl, by go_num, by omega, by omega, HBR.out, HAT.out⟩
            case measure => simp [intOf]; omega
        · obtain ⟨xs, hxl, hxc, hxb⟩ := HB3.out.nums
          have hkm : k < m := by omega
          have hkc : k ≤ cp' := by omega
          have hkmi : (k : Int) ≤ (m : Int) := by omega
          have hkmn : k ≤ m := by omega
          have hcpk : ¬ cp' = k := by omega
          have HX : Hid (∀ i, i < m → w3.cell? ⟨g, o + i, none⟩ = some (.int .u8 (xs.getD i 0))) := hxc
          have HXB : Hid (∀ x ∈ xs, 0 ≤ x ∧ x ≤ 255) := hxb
          clear hxc hxb
          have hc3 : c < w3.heap.size := HA3.out.2.2.1
          have hLw : w.heap.size ≤ w3.heap.size := by
            obtain ⟨_, _, _, hv, _, _, hl, hg, _⟩ := HB3.out
            omega
          have HN1 : Hid (∀ u, Touch c w3 u → ∀ j x, (((xs.drop 0).take k).map (Value.int .u8))[j]? = some x → u.cell? ((⟨g, o + 0, none⟩ : Addr).add j) = some x) := fun u hu => news_at hxl (fun i hi => (hu.cell (cell_lt (HX.out i hi)) hgc).trans (HX.out i hi)) 0 k
          have HN2 : Hid (∀ u, Touch c w3 u → ∀ j x, (((xs.drop k).take (m - k)).map (Value.int .u8))[j]? = some x → u.cell? ((⟨g, o + k, none⟩ : Addr).add j) = some x) := fun u hu => news_at hxl (fun i hi => (hu.cell (cell_lt (HX.out i hi)) hgc).trans (HX.out i hi)) k (m - k)
          go_wp2_with fail
          go_region_law (first | (refine step_append_any _ rfl (.tmp 59) (.tmp 62) 22 rfl w3.heap.size 5 i0 (.int .u8 0) 1 1 Tryz.underlying22 hi hz0 hz1 hz2 rfl (by decide) (.slice (some ⟨w3.heap.size, 0, none⟩) 0 0) 0 [] (by simp [Act.eval]) (World.ownsRow_made w3 #[] 0 (Nat.le_refl _) (by decide) (by simp)) ⟨g, o + 0, none⟩ k cp' (((xs.drop 0).take k).map (Value.int .u8)) (by simp [Act.eval]) (by simp; omega) (HN1.out _ (touch_below (by go_grown))) (ints_oneCell _ _) (by unfold maxLen; omega) (by omega) (by simp) ?_; intro v1 w4 hown1 hgrow1 hnil1; have hb4 : Below w3.heap.size w3 w4 := ((Below.refl _ _).alloc (Nat.le_refl _) _).drew.grown hgrow1 (by simp) (fun q hq => by simp [Value.ownBlock] at hq; omega)) | (refine step_append_any _ rfl (.tmp 71) (.tmp 74) 22 rfl w3.heap.size 5 i0 (.int .u8 0) 1 1 Tryz.underlying22 hi hz0 hz1 hz2 rfl (by decide) v2 (0 + k + 1) _ (by simp [Act.eval]) hown2 ⟨g, o + k, none⟩ (m - k) (cp' - k) (((xs.drop k).take (m - k)).map (Value.int .u8)) (by simp [Act.eval]) (by simp; omega) (HN2.out _ ⟨(hb6.os).trans T5.os, (hb6.tape).trans T5.tape, (hb6.output).trans T5.output, hs6, fun q hq hne => (hb6.block q hq).trans (T5.block q hq hne)⟩) (ints_oneCell _ _) (by unfold maxLen; omega) (by omega) hs6 ?_; intro v3 w7 hown3 hgrow3 hnil3) | (go_simp; go_at_call 27; refine (below_at B c _ _ a len cap _ (At.start (HA3.out.2.later hb4 hc3))).mono ?_; rintro e w5 ⟨u, rfl, hu0, hu1, hu2, hu3, h5⟩; obtain ⟨u, rfl⟩ := Int.eq_ofNat_of_zero_le hu0; have hul : u < sg.size := (by have := hu2 (by omega); omega); have hsu := sg[u].toNat_lt; have hown1' := own_touch hown1 h5.1 hc3; have T5 : Touch c w3 w5 := (touch_below hb4).trans h5.1; have hs5 : w3.heap.size ≤ w5.heap.size := T5.size; have C5 := h5.2; clear hu1 hu2 hu3 h5; dsimp only) | (refine step_append_any _ rfl (.tmp 63) (.tmp 70) 22 rfl w3.heap.size 5 i0 (.int .u8 0) 1 1 Tryz.underlying22 hi hz0 hz1 hz2 rfl (by decide) v1 (0 + k) _ (by simp [Act.eval]) (hown1'.alloc _) ⟨w5.heap.size, 0, none⟩ 1 1 (([(sg[u].toNat : Int)] : List Int).map (Value.int .u8)) (by simp [Act.eval]) rfl (fun j x hx => by match j, hx with | 0, hx => (simp at hx; subst hx; simp [Addr.add])) (ints_oneCell _ _) (by unfold maxLen; omega) (by omega) (by simp; omega) ?_; intro v2 w6 hown2 hgrow2 hnil2; have hb6 : Below w3.heap.size w5 w6 := ((Below.refl _ _).alloc hs5 _).grown hgrow2 (by simp; omega) (fun q hq => (hown1.lt q hq).1); have hs6 : w3.heap.size ≤ w6.heap.size := Nat.le_trans hs5 hb6.size))
          have hb7 : Below w3.heap.size w5 w7 := hb6.grown hgrow3 hs6 (fun q hq => (hown2.lt q hq).1)
          have hv3 : v3 ≠ .slice none 0 0 := fun e => by
            have h1 := (hnil3.1 e).1
            rw [hnil2] at h1
            exact absurd h1.2 (by omega)
          have T7 : Touch c w3 w7 := ⟨hb7.os.trans T5.os, hb7.tape.trans T5.tape, hb7.output.trans T5.output, Nat.le_trans T5.size hb7.size, fun q hq hne => (hb7.block q hq).trans (T5.block q hq hne)⟩
          have HBR : Hid (Br c w.heap.size w7 v3 (0 + k + 1 + (m - k))) := br_of_own (xs := (xs.drop 0).take k ++ [(sg[u].toNat : Int)] ++ (xs.drop k).take (m - k)) (by rw [List.map_append, List.map_append]; simpa using hown3) hv3 hLw hc3 (fun x hx => by
            rcases List.mem_append.1 hx with hx | hx
            · rcases List.mem_append.1 hx with hx | hx
              · exact HXB.out x (List.mem_of_mem_drop (List.mem_of_mem_take hx))
              · simp only [List.mem_singleton] at hx; omega
            · exact HXB.out x (List.mem_of_mem_drop (List.mem_of_mem_take hx)))
          have HAT : Hid (At B w0 w7 c a len cap) := ⟨HA3.out.1.trans T7, C5.later hb7 hc3⟩
          clear hown1 hown1' hown2 hown3 hgrow1 hgrow2 hgrow3 hnil1 hnil2 hnil3 hb4 hb6 hb7 hv3 T5 T7 C5
          go_wp2
          go_roundw
          case rel => exact ⟨_, q - 1, v3, rfl, by go_num, by omega, by omega, HBR.out, HAT.out⟩
          case measure => simp [intOf]; omega
      · have hmi : ¬ ((0 : Int) < (m : Int)) := by omega
        obtain ⟨xs, hxl, hxc, _⟩ := hbr.out.nums
        have hcv := run_convert_bytes_arg (P := Tryz.prog) wr 22 5 Tryz.underlying22 Tryz.underlying5 g o m cp' xs hxl hxc 9 Tryz.underlying9
        have hsz : (strOfNums xs).size ≤ s.size + 3 := by rw [strOfNums_size]; omega
        clear hxc
        generalize strOfNums xs = t at hcv hsz
        go_wp2
        go_ret
        exact ⟨t, rfl, hsz, hat.out⟩
    · have hqi : ¬ ((0 : Int) < (q : Int)) := by omega
      obtain ⟨xs, hxl, hxc, _⟩ := hbr.out.nums
      have hcv := run_convert_bytes_arg (P := Tryz.prog) wr 22 5 Tryz.underlying22 Tryz.underlying5 g o m cp' xs hxl hxc 9 Tryz.underlying9
      have hsz : (strOfNums xs).size ≤ s.size + 3 := by rw [strOfNums_size]; omega
      clear hxc
      generalize strOfNums xs = t at hcv hsz
      go_wp2
      go_ret
      exact ⟨t, rfl, hsz, hat.out⟩
end Cu
end Go.Proofs.YtnlanikjlokboaaGreatDoor
