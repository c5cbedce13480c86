/-
  Some of the texts that the last one of these needs: walks of the functions that the law calls, and the mathematics of their answers.
-/
import Derived.Test.YtfkfkmdnffpcmaaPkBase5
import Derived.Test.YtfkfkmdnffpcmaaPkBase1
import Derived.Test.YtfkfkmdnffpcmaaPkBase2
import Derived.Test.YtfkfkmdnffpcmaaPkBase4
import Derived.Test.YtfkfkmdnffpcmaaRows
import Derived.Carry
import Derived.ChangeSame
import Derived.ChangeMaps5
import Derived.Deep.Slices
namespace Go.Proofs.Ytfkfkmdnffpcmaa
open Go.RowKit

set_option maxHeartbeats 800000 in
theorem rxor_any (B m c n d : Nat) (A C : Option Addr) (xs ys : List UInt8) (w : World) (hx : Rd w B A m (Byt xs)) (hy : Rd w B C n (Byt ys)) (hm : m ≤ 140737488355328) (_hn : n ≤ 140737488355328) (hB : B ≤ w.heap.size) :
    Calls Try.prog 24 #[.slice A m c, .slice C n d] w (NewB 5 w (xorL xs ys)) := by
  have hxl := hx.bytes
  have hyl := hy.bytes
  have Hx := Lib.hid hxl; clear hxl
  have Hy := Lib.hid hyl; clear hyl
  go_enter Try.func24, Try.ntmps24
  go_wp2
  go_loopw [5, 6] (fun v i wr => ∃ (k : Nat) (A' : Option Addr) (c' : Nat), k ≤ m ∧ k ≤ n ∧ i = .int .i64 k ∧ v = .slice A' k c' ∧
      wr.ownsRow w.heap.size 5 1 (.slice A' k c') k (Byt ((xorL xs ys).take k)) ∧ Below w.heap.size w wr) (fun _ i _ => m - (intOf i).toNat)
  case atStart => exact ⟨0, none, 0, Nat.zero_le _, Nat.zero_le _, rfl, rfl, World.ownsRow_nil _ _ _ _, Below.refl _ _⟩
  case round =>
    obtain ⟨k, A', c', hkm, hkn, rfl, rfl, hownr, hbr⟩ := hrel
    by_cases h1 : k < m
    · by_cases h2 : k < n
      · have hkx : k < xs.length := by rw [Hx.out]; omega
        have hky : k < ys.length := by rw [Hy.out]; omega
        obtain ⟨b, o, rfl, hbB, hc⟩ := (hx.below (hbr.mono hB)).byte h1 hkx
        obtain ⟨b', o', rfl, hbB', hc'⟩ := (hy.below (hbr.mono hB)).byte h2 hky
        go_wp2
        go_region_law (refine step_append_byte (by rfl) _ _ _ (by rfl) 5 Try.underlying22 Try.info_u8 w.heap.size k c' wr.heap.size A' _ (by rfl) (by rfl) (by exact hownr.alloc _) _ (xs[k] ^^^ ys[k]) (xor_u8 _ _) (by go_simp) (by omega) (by have := hbr.size; simp; omega) w w.heap.size (by exact (hbr.alloc hbr.size _).drew) (Nat.le_refl _) ?_; intro A2 c2 w2 hown2 hb2)
        all_goals
          rw [← xorL_step hkx hky] at hown2
          go_wp2
          go_roundw
          case rel => exact ⟨k + 1, A2, c2, by omega, by omega, by go_num, rfl, hown2, hb2⟩
          case measure => simp [intOf]; omega
      · go_wp2
        go_ret
        have hl : (xorL xs ys).length = k := by rw [xorL_length, Hx.out, Hy.out]; omega
        rw [List.take_of_length_le (by omega)] at hownr
        exact ⟨A', c', by rw [hl]; rfl, by rw [hl]; exact hownr, hbr⟩
    · go_wp2
      go_ret
      have hl : (xorL xs ys).length = k := by rw [xorL_length, Hx.out, Hy.out]; omega
      rw [List.take_of_length_le (by omega)] at hownr
      exact ⟨A', c', by rw [hl]; rfl, by rw [hl]; exact hownr, hbr⟩

end Go.Proofs.Ytfkfkmdnffpcmaa

namespace Go.Proofs.Ytfkfkmdnffpcmaa
open Go.RowKit

set_option maxHeartbeats 800000 in
theorem rcover_form (m d n c p q B : Nat) (A C D : Option Addr) (t : List UInt8) (w : World) (ht : Rd w B D p (Byt t)) (hp : p ≤ 140737488355328) (hB : B ≤ w.heap.size) (h : m ≠ 32 ∨ n ≠ 16) :
    Calls Try.prog 15 #[.slice A m d, .slice C n c, .slice D p q] w (NewRF w [] 4) := by
  have c1 := fun W => rcstream_form m d n c A C (p : Int) W h
  have Ht := Lib.hid ht
  have HB := Lib.hid hB
  clear ht hB
  go_enter Try.func15, Try.ntmps15
  go_wp2_with fail
  refine (c1 _).mono ?_
  rintro e w1 ⟨A1, k1, rfl, hr1, ho1, hb1⟩
  have c2 := rxor_any w1.heap.size p q 0 k1 D A1 t [] w1 ((Ht.out.below (hb1.mono HB.out)).wider (Nat.le_trans HB.out hb1.size)) hr1 (by omega) (by omega) (Nat.le_refl _)
  rw [show xorL t [] = [] by simp [xorL]] at c2
  have Hb1 := Lib.hid hb1
  clear hr1 ho1 hb1
  go_wp2_with fail
  refine c2.mono ?_
  rintro e w2 ⟨A2, k2, rfl, hown, hb2⟩
  go_wp2
  go_ret2
  exact ⟨A2, k2, rfl, Rd.of_own hown, SlOK.of_own hown, Hb1.out.trans (hb2.mono Hb1.out.size)⟩

set_option maxHeartbeats 800000 in
theorem rcover_any (key s t : List UInt8) (c d q B n : Nat) (A C D : Option Addr) (w : World) (hr : Rd w B A 32 (Byt key)) (hs : Rd w B C 16 (Byt s)) (ht : Rd w B D n (Byt t)) (hB : B ≤ w.heap.size) (hn : n ≤ 65536) :
    Calls Try.prog 15 #[.slice A 32 c, .slice C 16 d, .slice D n q] w (NewRF w (coverU (akeysU key) s t) 0) := by
  have htl := ht.bytes
  have c1 := rcstream_any key s c d B n A C w hr hs hB hn
  have hl : (cstreamU (akeysU key) s n).length = n := cstream_length (akeys_length hr.bytes) n
  have Hfin : Hid (coverU (akeysU key) s t = xorL t (cstreamU (akeysU key) s n)) := Lib.hid (by rw [coverU, htl])
  revert c1 hl Hfin
  generalize coverU (akeysU key) s t = R
  generalize cstreamU (akeysU key) s n = L
  intro c1 hl Hfin
  have Hl := Lib.hid hl
  have Ht := Lib.hid ht
  have HB := Lib.hid hB
  unfold NewRF at c1
  rw [hl] at c1
  clear hl htl hr hs ht hB
  go_enter Try.func15, Try.ntmps15
  go_wp2_with fail
  refine c1.mono ?_
  rintro e w1 ⟨A1, k1, rfl, hr1, ho1, hb1⟩
  have c2 := rxor_any w1.heap.size n q n k1 D A1 t L w1 ((Ht.out.below (hb1.mono HB.out)).wider (Nat.le_trans HB.out hb1.size)) hr1 (by omega) (by omega) (Nat.le_refl _)
  rw [← Hfin.out] at c2
  have Hb1 := Lib.hid hb1
  clear hr1 ho1 hb1
  go_wp2_with fail
  refine c2.mono ?_
  rintro e w2 ⟨A2, k2, rfl, hown, hb2⟩
  go_wp2
  go_ret2
  exact ⟨A2, k2, rfl, Rd.of_own hown, SlOK.of_own hown, Hb1.out.trans (hb2.mono Hb1.out.size)⟩

end Go.Proofs.Ytfkfkmdnffpcmaa

namespace Go.Proofs.Ytfkfkmdnffpcmaa
open Go.RowKit

/-- Where the last carry ends. -/
theorem cnext_end {c : List UInt8} (h : c.length = 16) {k : Nat} (hk : k < 16) (h1 : cN c 1 k = 1) {b : UInt8} (hb : c[15 - k]? = some b) (he : k = 15 ∨ b.toNat ≠ 255) : (cD c 1 k).set (15 - k) (UInt8.ofNat (1 + b.toNat)) = cplusU c 1 := by
  obtain ⟨b', g1, g2, g3, g4⟩ := cD_at h 1 hk
  rw [hb] at g1
  injection g1 with g1
  subst g1
  rw [h1] at g3 g4
  rw [← g4]
  rcases he with rfl | he
  · rfl
  · have := b.toNat_lt
    exact cD_end h (by omega) (by rw [g3]; omega)

set_option maxHeartbeats 1600000 in
theorem rcnext_any (c : List UInt8) (w : World) (hc : c.length = 16) :
    Calls Try.prog 12 #[.agg (Nums .u8 (abn c))] w (AnsA w .u8 (abn (cplusU c 1))) := by
  have Hc := Lib.hid hc
  have HL : Hid ((abn (cplusU c 1)).length = 16) := Lib.hid (by rw [abn_length, cplus_length hc])
  have Hlen : Hid (∀ k, (abn (cD c 1 k)).length = 16) := Lib.hid (fun k => by rw [abn_length, cD_length, hc])
  have H0 : Hid (cN c 1 0 = 1 ∧ cD c 1 0 = c) := Lib.hid ⟨rfl, rfl⟩
  clear hc
  go_enter Try.func12, Try.ntmps12
  go_wp2_with (refine wp_box_arr (k := .u8) rfl 23 (.tmp 0) rfl (abn c) rfl ?_)
  intro w1 g1 G1 H1 Hb1 Hs1
  go_wp2_with (refine wp_alloc_arr (k := .u8) rfl 23 rfl 16 zero16 ?_)
  intro w2 g2 G2 H2 Hb2 Hs2
  have Hg : Hid (w.heap.size ≤ g1 ∧ w.heap.size ≤ g2 ∧ g1 ≠ g2) := Lib.hid (by have := G1.out; have := G2.out; have := Hs1.out; omega)
  have K1 : Hid (Arr w2 g1 23 .u8 (abn (cD c 1 0))) := Lib.hid (H1.out.below Hb2.out H1.out.lt)
  have B2 : Hid (Below w.heap.size w w2) := Lib.hid (abon Hb1.out Hb2.out)
  clear H1 Hb1 Hb2 G1 G2 Hs1 Hs2
  go_wp2
  go_loopw [3] (fun v wr => ∃ (k m : Nat), k ≤ 15 ∧ v = .int .i64 (m : Int) ∧ Hid (m + k = 15) ∧ Hid (cN c 1 k = 1) ∧ Hid (Arr wr g1 23 .u8 (abn (cD c 1 k))) ∧ Hid (Arr wr g2 23 .u8 (Zs 16)) ∧ Hid (Below w.heap.size w wr)) (fun v _ => (intOf v).toNat)
  case atStart => exact ⟨0, 15, by omega, rfl, Lib.hid rfl, Lib.hid H0.out.1, K1, H2, B2⟩
  case round =>
    clear K1 B2 H2
    obtain ⟨k, m, hk, rfl, Hz, Hn, K1, K2, B2⟩ := hrel
    have hm : m < 16 := by have := Hz.out; omega
    have Hm : Hid (15 - k = m) := Lib.hid (by have := Hz.out; omega)
    obtain ⟨b, h1, h2, h3, h4⟩ := cD_at Hc.out 1 (k := k) (by omega)
    have Hend := Lib.hid (cnext_end Hc.out (k := k) (by omega) Hn.out h1)
    rw [Hm.out] at h1 h2 h4
    have hcell := K1.out.at_ (abn_get h2)
    have hfz := K1.out.frozen m
    have hb := b.toNat_lt
    have Hset : Hid (abn (cD c 1 (k + 1)) = (abn (cD c 1 k)).set m (UInt8.ofNat (1 + b.toNat)).toNat) := Lib.hid (by rw [h4, Hn.out]; simp [abn, List.map_set])
    have Hnx : Hid (cN c 1 (k + 1) = (1 + b.toNat) / 256) := Lib.hid (by rw [h3, Hn.out])
    have Hsetm : Hid (abn ((cD c 1 k).set m (UInt8.ofNat (1 + b.toNat))) = (abn (cD c 1 k)).set m (UInt8.ofNat (1 + b.toNat)).toNat) := Lib.hid (by simp [abn, List.map_set])
    rw [Hm.out] at Hend
    clear h1 h2 h3 h4
    by_cases hgo : 0 < m ∧ b.toNat = 255
    · obtain ⟨hg1, hg2⟩ := hgo
      rw [hg2] at hcell Hset Hnx
      clear Hend Hsetm hb
      go_wp2
      go_roundw
      case rel =>
        refine ⟨k + 1, m - 1, by have := Hz.out; omega, by congr 1; omega, Lib.hid (by have := Hz.out; omega), Lib.hid (by rw [Hnx.out]), Lib.hid ?_, Lib.hid (K2.out.other Hg.out.2.2.symm), Lib.hid (B2.out.setCell Hg.out.1 _)⟩
        rw [Hset.out]
        exact K1.out.put rfl
      case measure => simp [intOf]; omega
    · have Hfin := Lib.hid (Hend.out (by have := Hz.out; omega))
      have hbz : (0 < m → ((b.toNat : Int) == 255) = false) := fun h => by simp; omega
      have Hsum : Hid (((UInt8.ofNat (1 + b.toNat)).toNat : Int) = ((b.toNat : Int) + 1) % 256) := Lib.hid (by rw [u8_of]; omega)
      have K3 : Hid (Arr (wr.setCell ⟨g1, m, none⟩ (.int .u8 (((b.toNat : Int) + 1) % 256))) g1 23 .u8 (abn (cplusU c 1))) := Lib.hid (by
        rw [← Hfin.out, Hsetm.out]
        exact K1.out.put Hsum.out.symm)
      have K4 : Hid (Arr (wr.setCell ⟨g1, m, none⟩ (.int .u8 (((b.toNat : Int) + 1) % 256))) g2 23 .u8 (Zs 16)) := Lib.hid (K2.out.other Hg.out.2.2.symm)
      have B4 : Hid (Below w.heap.size w (wr.setCell ⟨g1, m, none⟩ (.int .u8 (((b.toNat : Int) + 1) % 256)))) := Lib.hid (B2.out.setCell Hg.out.1 _)
      clear Hset Hnx Hend hgo Hsetm Hfin Hsum
      generalize hbb : b.toNat = p at *
      rcases Nat.eq_zero_or_pos m with h0 | h0
      · subst h0
        go_wp2_with (first
          | refine wp_load_arr arr16 rfl (.tmp 1) rfl rfl K3.out HL.out ?_
          | refine wp_put_arr arr16 rfl (.tmp 2) (.tmp 22) rfl rfl (l' := abn (cplusU c 1)) rfl K4.out (Zs_length _) HL.out ?_)
        intro w5 H5 Hm5 Hs5
        go_wp2
        exact ret_arr arr16 rfl rfl H5.out HL.out rfl ⟨rfl, B4.out.trans (Hm5.out.below (fun j hj => by have := Hg.out; omega) B4.out.size)⟩
      · have hb2 := hbz h0
        clear hbz
        go_wp2_with (first
          | refine wp_load_arr arr16 rfl (.tmp 1) rfl rfl K3.out HL.out ?_
          | refine wp_put_arr arr16 rfl (.tmp 2) (.tmp 22) rfl rfl (l' := abn (cplusU c 1)) rfl K4.out (Zs_length _) HL.out ?_)
        intro w5 H5 Hm5 Hs5
        go_wp2
        exact ret_arr arr16 rfl rfl H5.out HL.out rfl ⟨rfl, B4.out.trans (Hm5.out.below (fun j hj => by have := Hg.out; omega) B4.out.size)⟩

end Go.Proofs.Ytfkfkmdnffpcmaa

/-
  A new row of bytes that is written as an array. No program is named here.
-/
namespace Go.Proofs.Ytfkfkmdnffpcmaa
open Go.RowKit

theorem Nums_zs (n : Nat) : Nums .u8 (Zs n) = (List.replicate n (Value.int .u8 0)).toArray := by simp [Nums, Zs]
/-- 'make([]byte, n)', as an array. -/
theorem wp_make_arr {P : Program} {w : World} {ops : Array Oper} {rest : List Oper} {o : Oper} {a : Act} {Q : Exit → Act → World → Prop}
    (hg : o.guard = none) (l c : Operand) (t : TypeId) (hop : o.op = Op.makeSlice t l c) (e : TypeId)
    (h1 : P.underlying t = some (.slice e)) (h2 : (P.info? e).map (fun i => (i.zero, i.size, i.bytes)) = some (some (.int .u8 0), 1, 1))
    (n : Nat) (hl : a.eval l = .int .i64 (n : Int)) (hc : a.eval c = .int .i64 (n : Int)) (hm : n ≤ 281474976710656)
    (hK : ∀ w' g, Hid (g = w.heap.size) → Hid (Arr w' g e .u8 (Zs n)) → Hid (Below w.heap.size w w') → Hid (w'.heap.size = w.heap.size + 1) → wpList P ops Q rest (a.put o.dst (.slice (some ⟨g, 0, none⟩) n n)) w') :
    wpList P ops Q (o :: rest) a w := by
  obtain ⟨i0, hi, hz0, hz1, hz2⟩ := info_parts h2
  refine wpList_plain hg fun K hK' => ?_
  have hr := run_make (P := P) w t e i0 (.int .u8 0) h1 hi hz0 .i64 .i64 n n (by omega) (by omega) (by rw [hz2]; omega) (by omega)
  simp only [Int.toNat_natCast, hz1, Nat.mul_one] at hr
  have hcells : madeCells (Value.int .u8 0).cells n = Nums .u8 (Zs n) := by
    apply Array.toList_inj.1
    rw [Nums_zs]
    exact toList_madeCells_one _ _
  have hq := hK' _ _ (hK (w.alloc (.cells (madeCells (Value.int .u8 0).cells n) e)) w.heap.size (Lib.hid rfl) (Lib.hid (by rw [hcells]; exact Arr.new)) (Lib.hid ((Below.refl _ _).alloc (Nat.le_refl _) _)) (Lib.hid (by simp)))
  unfold Oper.wp
  simp [execOp, hop, hl, hc, hr, Result.andThen]
  exact hq
/-- An array is read. -/
theorem Arr.rd {w : World} {g : Nat} {t : TypeId} {l : List UInt8} (h : Arr w g t .u8 (abn l)) : Rd w w.heap.size (some ⟨g, 0, none⟩) l.length (Byt l) :=
  ⟨by rw [Byt_length], fun _ => ⟨g, 0, rfl, h.lt, fun j u hu => by
    have hj : j < l.length := by
      obtain ⟨h1, _⟩ := List.getElem?_eq_some_iff.1 hu
      rwa [Byt_length] at h1
    rw [Byt_get hj] at hu
    injection hu with hu
    rw [← hu, Nat.zero_add]
    exact h.at_ (abn_get (List.getElem?_eq_getElem hj))⟩⟩

end Go.Proofs.Ytfkfkmdnffpcmaa

namespace Go.Proofs.Ytfkfkmdnffpcmaa
open Go.RowKit

theorem cstream_form (m d n c : Nat) (A C : Option Addr) (z : Int) (w : World) (h : m ≠ 32 ∨ n ≠ 16) :
    Calls Try.prog 9 #[.slice A m d, .slice C n c, .int .i64 z] w (NewRF w [] 4) := by
  have c1 : ∀ W, Calls Try.prog 17 #[.slice A m d, .slice C n c] W (Ans W (.tuple #[.nilFunc, .int .i64 4])) := fun W => by
    by_cases hn : n = 16
    · subst hn
      exact cblocks_none m d c A C W (h.resolve_right fun h => h rfl)
    · exact (cblocks_form m d n c A C W hn).mono fun e w' hw => ⟨hw.1, by rw [hw.2]; exact Below.refl _ _⟩
  go_enter Try.func9, Try.ntmps9
  go_wp2_with fail
  refine (c1 _).mono ?_
  rintro e w1 ⟨rfl, hb⟩
  go_wp2
  go_ret2
  exact ⟨none, 0, rfl, Rd.nil, SlOK.nil, hb⟩
theorem cstream_range (key s : List UInt8) (c d B : Nat) (A C : Option Addr) (z : Int) (w : World) (hr : Rd w B A 32 (Byt key)) (hc : 32 ≤ c) (hs : Rd w B C 16 (Byt s)) (hB : B ≤ w.heap.size) (hz : z < 0 ∨ 65536 < z) :
    Calls Try.prog 9 #[.slice A 32 c, .slice C 16 d, .int .i64 z] w (NewRF w [] 2) := by
  have c1 := cblocks_any key s c d B A C w hr hc hs hB
  rcases hz with hz | hz
  all_goals
    go_enter Try.func9, Try.ntmps9
    go_wp2_with fail
    refine c1.mono ?_
    rintro e w1 ⟨g1, g2, rfl, S1, hg1, hg2⟩
    go_wp2
    go_ret2
    exact ⟨none, 0, rfl, Rd.nil, SlOK.nil, S1.2⟩

set_option maxHeartbeats 1600000 in
theorem cstream_any (key s : List UInt8) (c d B n : Nat) (A C : Option Addr) (w : World) (hr : Rd w B A 32 (Byt key)) (hc : 32 ≤ c) (hs : Rd w B C 16 (Byt s)) (hB : B ≤ w.heap.size) (hn : n ≤ 65536) :
    Calls Try.prog 9 #[.slice A 32 c, .slice C 16 d, .int .i64 (n : Int)] w (NewRF w (cstreamU (akeysU key) s n) 0) := by
  have c1 := cblocks_any key s c d B A C w hr hc hs hB
  have hk : (akeysU key).length = 240 := akeys_length hr.bytes
  have hsl := hs.bytes
  have c2 := fun i g1 g2 W (hi : i ≤ 65535) hS => ctell_any (akeysU key) s i g1 g2 W hk hsl hi hS
  have Hlen := Lib.hid (cstream_length (s := s) hk n)
  have Hbl : Hid (∀ i, (abn (cblkU (akeysU key) s i)).length = 16) := Lib.hid (cblk_abn hk)
  have Hget : Hid (∀ i j x, (abn (cblkU (akeysU key) s i))[j]? = some x → 16 * i + j < n → (abn (cstreamU (akeysU key) s n))[16 * i + j]? = some x) := Lib.hid (cstream_abn hk n)
  clear hr hs hB hk hsl
  revert c1 c2 Hlen Hbl Hget
  unfold ctellV
  generalize cstreamU (akeysU key) s n = L
  generalize hblk : (fun i => abn (cblkU (akeysU key) s i)) = blk
  have hblk' : ∀ i, abn (cblkU (akeysU key) s i) = blk i := fun i => by rw [← hblk]
  simp only [hblk']
  clear hblk hblk'
  generalize abn (akeysU key) = K
  generalize abn s = S
  intro c1 c2 Hlen Hbl Hget
  go_enter Try.func9, Try.ntmps9
  go_wp2_with fail
  refine c1.mono ?_
  rintro e w1 ⟨g1, g2, rfl, S1, hg1, hg2⟩
  have hh1 := (S1.1 (g1, 47, K) (by simp)).lt
  have hh2 := (S1.1 (g2, 23, S) (by simp)).lt
  have HS1 := Lib.hid S1
  clear S1 c1
  go_wp2_with (refine wp_make_arr rfl _ _ 22 rfl 5 Try.underlying22 Try.info_u8 n rfl rfl (by omega) ?_)
  intro w2 g3 G3 H3 Hb3 Hs3
  have Hg : Hid (w.heap.size ≤ g3 ∧ g1 ≠ g3 ∧ g2 ≠ g3) := Lib.hid (by
    have e := G3.out
    have h3 := HS1.out.2.size
    omega)
  have F2 : Hid (SK w [(g3, 5, (abn L).take (16 * 0) ++ (Zs n).drop (16 * 0)), (g1, 47, K), (g2, 23, S)] w2) := Lib.hid (sk_cons (sk_below HS1.out Hb3.out) H3.out)
  have Hne : Hid (∀ x ∈ [(g1, 47, K), (g2, 23, S)], x.1 ≠ g3) := Lib.hid (by
    have h5 := Hg.out
    intro x hx
    simp only [List.mem_cons, List.not_mem_nil, or_false] at hx
    rcases hx with rfl | rfl
    · exact h5.2.1
    · exact h5.2.2)
  have HL : Hid ((abn L).length = n) := Lib.hid (by rw [abn_length, Hlen.out])
  clear H3 Hb3 Hs3 G3 HS1 hh1 hh2 hg1 hg2
  go_wp2
  go_loopw [11] (fun v wr => ∃ (i p : Nat), v = .int .i64 (p : Int) ∧ p < n + 16 ∧ Hid (16 * i = p) ∧ Hid (SK w [(g3, 5, (abn L).take p ++ (Zs n).drop p), (g1, 47, K), (g2, 23, S)] wr)) (fun v _ => n - (intOf v).toNat)
  case atStart => exact ⟨0, 0, rfl, by omega, Lib.hid rfl, F2⟩
  case round =>
    clear F2
    obtain ⟨i, p, rfl, hp, Hp, F2⟩ := hrel
    by_cases hlt : p < n
    · have e1 : (p : Int) / 16 = (i : Int) := by have := Hp.out; omega
      have e1t : (p : Int).tdiv 16 = (i : Int) := by rw [Int.tdiv_eq_ediv_of_nonneg (by omega)]; exact e1
      have c3 := fun W => c2 i g1 g2 W (by have := Hp.out; omega)
      go_wp2_with fail
      refine (c3 _ ⟨fun x hx => F2.out.1 x (List.mem_cons_of_mem _ hx), Below.refl _ _⟩).mono ?_
      rintro e w3 ⟨rfl, hb⟩
      have F3 := Lib.hid (sk_below F2.out hb)
      clear hb F2 c3
      go_wp2_with (refine wp_alloc_arr (k := .u8) rfl 23 rfl 16 zero16 ?_)
      intro w4 g4 G4 H4 Hb4 Hs4
      go_wp2_with (refine wp_put_arr arr16 rfl (.tmp 12) (.tmp 38) rfl rfl (l' := blk i) rfl H4.out (Zs_length _) (Hbl.out i) ?_)
      intro w5 H5 Hm5 Hs5
      have Hg4 : Hid (g3 ≠ g4 ∧ g1 ≠ g4 ∧ g2 ≠ g4 ∧ w.heap.size ≤ g4) := Lib.hid (by
        have e := G4.out
        have h0 := (sk_hd F3.out).lt
        have h1 := (F3.out.1 (g1, 47, K) (by simp)).lt
        have h2 := (F3.out.1 (g2, 23, S) (by simp)).lt
        have h3 := F3.out.2.size
        dsimp only at h1 h2
        omega)
      have F5 : Hid (SK w [(g3, 5, (abn L).take p ++ (Zs n).drop p), (g1, 47, K), (g2, 23, S)] w5) := Lib.hid (sk_keep (sk_below F3.out Hb4.out) Hm5.out (by
        have h5 := Hg4.out
        intro x hx
        simp only [List.mem_cons, List.not_mem_nil, or_false] at hx
        rcases hx with rfl | rfl | rfl
        · exact h5.1
        · exact h5.2.1
        · exact h5.2.2.1) Hg4.out.2.2.2)
      obtain ⟨q, hq⟩ : ∃ q, min 16 (n - p) = q := ⟨_, rfl⟩
      have Hns : Hid (((blk i).take q).length = q) := Lib.hid (by rw [List.length_take, Hbl.out i]; omega)
      have Hmin : Hid (q = Nat.min 16 (n - p)) := Lib.hid hq.symm
      have Hsrc : Hid (∀ j x : Nat, ((blk i).take q)[j]? = some x → w5.drew.cell? ((⟨g4, 0, none⟩ : Addr).add j) = some (.int .u8 (x : Int))) := Lib.hid (fun j x hx => by
        rw [add_flat, Nat.zero_add]
        refine H5.out.at_ ?_
        rw [List.getElem?_take] at hx
        split at hx
        · exact hx
        · cases hx)
      have Hfit : Hid (p + q ≤ ((abn L).take p ++ (Zs n).drop p).length) := Lib.hid (by rw [fill_length (by rw [HL.out, Zs_length]), Zs_length]; omega)
      have Hspl : Hid (splice ((abn L).take p ++ (Zs n).drop p) p ((blk i).take q) = (abn L).take (p + 16) ++ (Zs n).drop (p + 16)) := Lib.hid (by
        rw [afill_splice (L := abn L) (M := Zs n) (ns := (blk i).take q) (off := p) (by rw [HL.out, Zs_length]) (by rw [Hns.out, Zs_length]; omega) (fun j x hx => by
          rw [List.getElem?_take] at hx
          split at hx
          · next hj =>
            have h := Hget.out i j x hx (by have := Hp.out; omega)
            rwa [Hp.out] at h
          · cases hx), Hns.out]
        rcases Nat.lt_or_ge (n - p) 16 with h16 | h16
        · rw [List.take_of_length_le (by rw [HL.out]; omega), List.take_of_length_le (by rw [HL.out]; omega), List.drop_of_length_le (by rw [Zs_length]; omega), List.drop_of_length_le (by rw [Zs_length]; omega)]
        · rw [show q = 16 by omega])
      have sl1 := fun W => run_slice_from (P := Try.prog) (b := g3) Try.underlying22 info_u8n 0 n n p (p : Int) rfl hlt (Nat.le_refl _) W
      rw [Nat.zero_add] at sl1
      have sl2 := fun W => run_slice_arr_all (P := Try.prog) (b := g4) arr16 info_u8n 0 W
      clear F3 H4 Hb4 Hs4 Hm5 Hs5 G4 H5 hq e1 e1t
      go_wp2_with fail
      refine wp_region_takes (by kernel_rfl) ?_
      refine wpAnyT_take (i := 0) (v := .slice (some ⟨g3, 0, none⟩) n n) (some 39) rfl rfl (by kernel_rfl) (fun _ _ _ h => h) (.inl ⟨by rfl, fun W => rfl⟩) ?_
      simp only [Act.put, List.setIfInBounds_toArray, List.set_cons_zero, List.set_cons_succ]
      refine wpAnyT_take (i := 1) (v := .int .i64 (p : Int)) (some 40) rfl rfl (by kernel_rfl) (fun _ _ _ h => h) (.inl ⟨by rfl, fun W => rfl⟩) ?_
      simp only [Act.put, List.setIfInBounds_toArray, List.set_cons_zero, List.set_cons_succ]
      refine wpAnyT_take (i := 2) (v := .slice (some ⟨g3, p, none⟩) (n - p) (n - p)) (some 41) rfl rfl (by kernel_rfl) (fun _ _ _ h => h) (.inl ⟨by rfl, fun W => by go_simp⟩) ?_
      simp only [Act.put, List.setIfInBounds_toArray, List.set_cons_zero, List.set_cons_succ]
      refine wpAnyT_take (i := 3) (v := .slice (some ⟨g4, 0, none⟩) 16 16) (some 42) rfl rfl (by kernel_rfl) (fun _ _ _ h => h) (.inl ⟨by rfl, fun W => by go_simp⟩) ?_
      simp only [Act.put, List.setIfInBounds_toArray, List.set_cons_zero, List.set_cons_succ]
      refine wpAnyT_one (i := 4) (by kernel_rfl) rfl (fun K5 hK5 => ?_)
      refine stepT_copy (k := .u8) (g := g3) (some 43) rfl rfl (.tmp 41) (.tmp 42) 22 22 rfl 5 Try.underlying22 info_u8n p (n - p) (n - p) ⟨g4, 0, none⟩ 16 16 rfl rfl _ ((blk i).take q) q Hns.out (sk_hd F5.out).drew Hmin.out Hsrc.out Hfit.out (fun W6 A6 M6 _ => hK5.out _ _ ?_)
      have F8 := Lib.hid (sk_put (sk_drewN F5.out 1) M6.out A6.out Hne.out Hg.out.1)
      rw [Hspl.out] at F8
      clear A6 M6 F5 hK5 K5
      simp only [Act.put, List.setIfInBounds_toArray, List.set_cons_zero, List.set_cons_succ]
      refine wpAnyT_done (by kernel_rfl) ?_
      go_wp2
      go_roundw
      case rel => exact ⟨i + 1, p + 16, by go_num, by omega, Lib.hid (by have := Hp.out; omega), F8⟩
      case measure => simp [intOf]; omega
    · have A3 : Hid (Arr wr g3 5 .u8 (abn L)) := Lib.hid (by
        have h := sk_hd F2.out
        rwa [List.take_of_length_le (by rw [HL.out]; omega), List.drop_of_length_le (by rw [Zs_length]; omega), List.append_nil] at h)
      go_wp2
      go_ret2
      exact ⟨some ⟨g3, 0, none⟩, n, by rw [Hlen.out]; rfl, A3.out.rd, .inr ⟨_, rfl, by rw [Hlen.out]; exact Nat.le_refl _, by unfold maxLen; omega⟩, F2.out.2⟩

end Go.Proofs.Ytfkfkmdnffpcmaa

namespace Go.Proofs.Ytfkfkmdnffpcmaa
open Go.RowKit

set_option maxHeartbeats 800000 in
theorem xor_any (B m c n d : Nat) (A C : Option Addr) (xs ys : List UInt8) (w : World) (hx : Rd w B A m (Byt xs)) (hy : Rd w B C n (Byt ys)) (hm : m ≤ 140737488355328) (hn : n ≤ 140737488355328) (hB : B ≤ w.heap.size) :
    Calls Try.prog 23 #[.slice A m c, .slice C n d] w (NewB 5 w (xorL xs ys)) := by
  have hxl := hx.bytes
  have hyl := hy.bytes
  have Hx := Lib.hid hxl; clear hxl
  have Hy := Lib.hid hyl; clear hyl
  rcases Nat.lt_or_ge n m with h | h
  · have hmin : min (m : Int) (n : Int) = (n : Int) := by omega
    go_enter Try.func23, Try.ntmps23
    go_wp2_with (refine wp_make_bytes rfl _ _ 22 rfl 5 Try.underlying22 Try.info_u8 n rfl rfl (by omega) ?_)
    intro w1 hown hb
    go_wp2
    go_loopw [6, 15] (fun _ i wr => ∃ k : Nat, k ≤ n ∧ i = .int .i64 k ∧
      wr.ownsRow w.heap.size 5 1 (.slice (some ⟨w.heap.size, 0, none⟩) n n) n (Byt ((xorL xs ys).take k ++ List.replicate (n - k) 0)) ∧ Below w.heap.size w wr) (fun _ i _ => n - (intOf i).toNat)
    case atStart => exact ⟨0, Nat.zero_le _, rfl, by simpa using hown, hb⟩
    case round =>
      obtain ⟨k, hk, rfl, hownr, hbr⟩ := hrel
      by_cases hlt : k < n
      · have hkx : k < xs.length := by rw [Hx.out]; omega
        have hky : k < ys.length := by rw [Hy.out]; omega
        have hkm : k < m := by omega
        have hkn : k < n := by omega
        obtain ⟨b, o, rfl, hbB, hc⟩ := (hx.below (hbr.mono hB)).byte hkm hkx
        obtain ⟨b', o', rfl, hbB', hc'⟩ := (hy.below (hbr.mono hB)).byte hkn hky
        obtain ⟨u, hu⟩ := own_any hownr hlt
        have hf := hownr.frozenAt k
        go_wp2
        go_still_tail 12, (by kernel_rfl)
        go_wp2
        go_roundw
        case rel =>
          have h2 := own_put hownr k (bits .xor .u8 (xs[k].toNat : Int) (ys[k].toNat : Int)) (xs[k] ^^^ ys[k]) (xor_u8 _ _)
          rw [fill_set _ _ hlt (by rw [List.length_take, xorL_length, Hx.out, Hy.out]; omega), ← xorL_step hkx hky] at h2
          exact ⟨k + 1, by omega, by go_num, h2, (hbr.setCell (p := ⟨w.heap.size, k, none⟩) (Nat.le_refl _) _).drew⟩
        case measure => simp [intOf]; omega
      · go_wp2
        go_ret
        have hl : (xorL xs ys).length = n := by rw [xorL_length, Hx.out, Hy.out]; omega
        rw [show k = n by omega, Nat.sub_self, List.replicate_zero, List.append_nil, List.take_of_length_le (by omega)] at hownr
        exact ⟨some ⟨w.heap.size, 0, none⟩, n, by rw [hl]; rfl, by rw [hl]; exact hownr, hbr⟩
  · have hmin : min (m : Int) (n : Int) = (m : Int) := by omega
    go_enter Try.func23, Try.ntmps23
    go_wp2_with (refine wp_make_bytes rfl _ _ 22 rfl 5 Try.underlying22 Try.info_u8 m rfl rfl (by omega) ?_)
    intro w1 hown hb
    go_wp2
    go_loopw [6, 15] (fun _ i wr => ∃ k : Nat, k ≤ m ∧ i = .int .i64 k ∧
      wr.ownsRow w.heap.size 5 1 (.slice (some ⟨w.heap.size, 0, none⟩) m m) m (Byt ((xorL xs ys).take k ++ List.replicate (m - k) 0)) ∧ Below w.heap.size w wr) (fun _ i _ => m - (intOf i).toNat)
    case atStart => exact ⟨0, Nat.zero_le _, rfl, by simpa using hown, hb⟩
    case round =>
      obtain ⟨k, hk, rfl, hownr, hbr⟩ := hrel
      by_cases hlt : k < m
      · have hkx : k < xs.length := by rw [Hx.out]; omega
        have hky : k < ys.length := by rw [Hy.out]; omega
        have hkm : k < m := by omega
        have hkn : k < n := by omega
        obtain ⟨b, o, rfl, hbB, hc⟩ := (hx.below (hbr.mono hB)).byte hkm hkx
        obtain ⟨b', o', rfl, hbB', hc'⟩ := (hy.below (hbr.mono hB)).byte hkn hky
        obtain ⟨u, hu⟩ := own_any hownr hlt
        have hf := hownr.frozenAt k
        go_wp2
        go_still_tail 12, (by kernel_rfl)
        go_wp2
        go_roundw
        case rel =>
          have h2 := own_put hownr k (bits .xor .u8 (xs[k].toNat : Int) (ys[k].toNat : Int)) (xs[k] ^^^ ys[k]) (xor_u8 _ _)
          rw [fill_set _ _ hlt (by rw [List.length_take, xorL_length, Hx.out, Hy.out]; omega), ← xorL_step hkx hky] at h2
          exact ⟨k + 1, by omega, by go_num, h2, (hbr.setCell (p := ⟨w.heap.size, k, none⟩) (Nat.le_refl _) _).drew⟩
        case measure => simp [intOf]; omega
      · go_wp2
        go_ret
        have hl : (xorL xs ys).length = m := by rw [xorL_length, Hx.out, Hy.out]; omega
        rw [show k = m by omega, Nat.sub_self, List.replicate_zero, List.append_nil, List.take_of_length_le (by omega)] at hownr
        exact ⟨some ⟨w.heap.size, 0, none⟩, m, by rw [hl]; rfl, by rw [hl]; exact hownr, hbr⟩

end Go.Proofs.Ytfkfkmdnffpcmaa

namespace Go.Proofs.Ytfkfkmdnffpcmaa
open Go.RowKit

theorem cover_form (m d n c p q : Nat) (A C D : Option Addr) (w : World) (h : m ≠ 32 ∨ n ≠ 16) :
    Calls Try.prog 14 #[.slice A m d, .slice C n c, .slice D p q] w (NewRF w [] 4) := by
  have c1 := fun W => cstream_form m d n c A C (p : Int) W h
  go_enter Try.func14, Try.ntmps14
  go_wp2_with fail
  refine (c1 _).mono ?_
  rintro e w1 ⟨A1, k1, rfl, hr1, ho1, hb1⟩
  go_wp2
  go_ret2
  exact ⟨none, 0, rfl, Rd.nil, SlOK.nil, hb1⟩

set_option maxHeartbeats 800000 in
theorem cover_any (key s t : List UInt8) (c d q B n : Nat) (A C D : Option Addr) (w : World) (hr : Rd w B A 32 (Byt key)) (hc : 32 ≤ c) (hs : Rd w B C 16 (Byt s)) (ht : Rd w B D n (Byt t)) (hB : B ≤ w.heap.size) (hn : n ≤ 65536) :
    Calls Try.prog 14 #[.slice A 32 c, .slice C 16 d, .slice D n q] w (NewRF w (coverU (akeysU key) s t) 0) := by
  have htl := ht.bytes
  have c1 := cstream_any key s c d B n A C w hr hc hs hB hn
  have hl : (cstreamU (akeysU key) s n).length = n := cstream_length (akeys_length hr.bytes) n
  have Hfin : Hid (coverU (akeysU key) s t = xorL t (cstreamU (akeysU key) s n)) := Lib.hid (by rw [coverU, htl])
  revert c1 hl Hfin
  generalize coverU (akeysU key) s t = R
  generalize cstreamU (akeysU key) s n = L
  intro c1 hl Hfin
  have Hl := Lib.hid hl
  have Ht := Lib.hid ht
  have HB := Lib.hid hB
  unfold NewRF at c1
  rw [hl] at c1
  clear hl htl hr hs ht hB
  go_enter Try.func14, Try.ntmps14
  go_wp2_with fail
  refine c1.mono ?_
  rintro e w1 ⟨A1, k1, rfl, hr1, ho1, hb1⟩
  have c2 := xor_any w1.heap.size n q n k1 D A1 t L w1 ((Ht.out.below (hb1.mono HB.out)).wider (Nat.le_trans HB.out hb1.size)) hr1 (by omega) (by omega) (Nat.le_refl _)
  rw [← Hfin.out] at c2
  have Hb1 := Lib.hid hb1
  clear hr1 ho1 hb1
  go_wp2_with fail
  refine c2.mono ?_
  rintro e w2 ⟨A2, k2, rfl, hown, hb2⟩
  go_wp2
  go_ret2
  exact ⟨A2, k2, rfl, Rd.of_own hown, SlOK.of_own hown, Hb1.out.trans (hb2.mono Hb1.out.size)⟩

end Go.Proofs.Ytfkfkmdnffpcmaa

namespace Go.Proofs.Ytfkfkmdnffpcmaa
open Go.RowKit

set_option maxHeartbeats 1600000 in
theorem cnext_any (c : List UInt8) (w : World) (hc : c.length = 16) :
    Calls Try.prog 11 #[.agg (Nums .u8 (abn c))] w (AnsA w .u8 (abn (cplusU c 1))) := by
  have Hc : Hid ((abn c).length = 16) := Lib.hid (by rw [abn_length, hc])
  have HL : Hid ((abn (cplusU c 1)).length = 16) := Lib.hid (by rw [abn_length, cplus_length hc])
  have c1 : ∀ W, Calls Try.prog 22 #[.agg (Nums .u8 (abn c)), .int .i64 1] W (AnsA W .u8 (abn (cplusU c 1))) := fun W => cplus_any c 1 W hc (by omega)
  clear hc
  revert Hc HL c1
  generalize abn (cplusU c 1) = L
  generalize abn c = l
  intro Hc HL c1
  go_enter Try.func11, Try.ntmps11
  go_wp2_with (refine wp_box_arr (k := .u8) rfl 23 (.tmp 0) rfl l rfl ?_)
  intro w1 g1 G1 H1 Hb1 Hs1
  go_wp2_with (refine wp_alloc_arr (k := .u8) rfl 23 rfl 16 zero16 ?_)
  intro w2 g2 G2 H2 Hb2 Hs2
  go_wp2_with (refine wp_load_arr arr16 rfl (.tmp 1) rfl rfl (H1.out.below Hb2.out H1.out.lt) Hc.out ?_)
  refine (c1 _).mono ?_
  rintro e w3 ⟨rfl, hb3⟩
  have H3 := Lib.hid (H2.out.below hb3 H2.out.lt)
  have B3 := Lib.hid (abon (abon Hb1.out Hb2.out) hb3)
  have Hg : Hid (w.heap.size ≤ g2) := Lib.hid (by have := G2.out; have := Hs1.out; omega)
  clear hb3 H2 Hb2 G2 Hs2
  go_wp2_with (refine wp_put_arr arr16 rfl (.tmp 2) (.tmp 4) rfl rfl (l' := L) rfl H3.out (Zs_length _) HL.out ?_)
  intro w5 H5 Hm5 Hs5
  go_wp2
  exact ret_arr arr16 rfl rfl H5.out HL.out rfl ⟨rfl, B3.out.trans (Hm5.out.below (fun j hj => by have := Hg.out; omega) B3.out.size)⟩

end Go.Proofs.Ytfkfkmdnffpcmaa

namespace Go.Proofs.Ytfkfkmdnffpcmaa
open Go.RowKit

/-- 0 .. 0, 255. -/
def caliveC : List UInt8 := List.replicate 15 0 ++ [255]
theorem calive_c : abn caliveC = (Zs 16).set 15 255 := by decide +kernel
theorem calive_d : abn (cplusU caliveC 1) = List.replicate 14 0 ++ [1, 0] := by rw [show caliveC = List.replicate 15 0 ++ [255] from rfl, cplus_alive]; decide +kernel

set_option maxHeartbeats 1600000 in
theorem alive12_any (w : World) : Calls Try.prog 6 #[] w (Ans w (.bool true)) := by
  have c1 : ∀ W, Calls Try.prog 11 #[.agg (Nums .u8 ((Zs 16).set 15 255))] W (AnsA W .u8 (List.replicate 14 0 ++ [1, 0])) := fun W => by
    have h := cnext_any caliveC W rfl
    rw [calive_c, calive_d] at h
    exact h
  have Hst : Hid (∀ W ga gb, Arr W ga 5 .u8 (Zs 32) → Arr W gb 5 .u8 (Zs 16) → Calls Try.prog 9 #[.slice (some ⟨ga, 0, none⟩) 32 32, .slice (some ⟨gb, 0, none⟩) 16 16, .int .i64 3] W (fun e w' => ∃ v, e = .returned v ∧ ∃ A c, v = .tuple #[.slice A 3 c, .int .i64 0] ∧ Below W.heap.size W w')) := Lib.hid (fun W ga gb h1 h2 => by
    have e1 : abn (List.replicate 32 0) = Zs 32 := by simp [abn, Zs]
    have e2 : abn (List.replicate 16 0) = Zs 16 := by simp [abn, Zs]
    rw [← e1] at h1
    rw [← e2] at h2
    have r1 := h1.rd
    have r2 := h2.rd
    rw [List.length_replicate] at r1 r2
    refine (cstream_any (List.replicate 32 0) (List.replicate 16 0) 32 16 W.heap.size 3 _ _ W r1 (Nat.le_refl _) r2 (Nat.le_refl _) (by omega)).mono ?_
    have hl := cstream_length (s := List.replicate 16 0) (akeys_length (f := gboxU) (key := List.replicate 32 0) (List.length_replicate ..)) 3
    have hl' : (cstreamU (akeysU (List.replicate 32 0)) (List.replicate 16 0) 3).length = 3 := hl
    clear hl
    revert hl'
    generalize cstreamU (akeysU (List.replicate 32 0)) (List.replicate 16 0) 3 = L
    intro hl'
    rintro e w' ⟨A, c, rfl, _, _, hb⟩
    rw [hl']
    exact ⟨_, rfl, A, c, rfl, hb⟩)
  have Hz : Hid (((Zs 16).set 15 255).length = 16) := Lib.hid (by rw [List.length_set, Zs_length])
  have Hd : Hid ((List.replicate 14 0 ++ [1, 0] : List Nat).length = 16 ∧ (List.replicate 14 0 ++ [1, 0] : List Nat)[14]? = some 1 ∧ (List.replicate 14 0 ++ [1, 0] : List Nat)[15]? = some 0) := Lib.hid ⟨rfl, rfl, rfl⟩
  revert c1 Hd
  generalize (List.replicate 14 0 ++ [1, 0] : List Nat) = E
  intro c1 Hd
  go_enter Try.func6, Try.ntmps6
  go_wp2_with (refine wp_alloc_arr (k := .u8) rfl 23 rfl 16 zero16 ?_)
  intro w1 g1 G1 H1 Hb1 Hs1
  have hcl := H1.out.at_ (Zs_get (n := 16) (j := 15) (by omega))
  have hfz := H1.out.frozen 15
  have H2 : Hid (Arr (w1.setCell ⟨g1, 15, none⟩ (.int .u8 255)) g1 23 .u8 ((Zs 16).set 15 255)) := Lib.hid (H1.out.put rfl)
  have B2 : Hid (Below w.heap.size w (w1.setCell ⟨g1, 15, none⟩ (.int .u8 255))) := Lib.hid (Hb1.out.setCell (by have := G1.out; show w.heap.size ≤ g1; omega) _)
  clear H1 Hb1 Hs1
  go_wp2_with (refine wp_load_arr arr16 rfl (.tmp 1) rfl rfl H2.out Hz.out ?_)
  revert H2 B2
  generalize w1.setCell ⟨g1, 15, none⟩ (.int .u8 255) = w2
  intro H2 B2
  refine (c1 _).mono ?_
  rintro e w3 ⟨rfl, hb3⟩
  have B3 := Lib.hid (abon B2.out hb3)
  clear hb3 H2 B2 hcl hfz
  go_wp2_with (refine wp_alloc_arr (k := .u8) rfl 23 rfl 16 zero16 ?_)
  intro w4 g2 G2 H4 Hb4 Hs4
  go_wp2_with (refine wp_put_arr arr16 rfl (.tmp 2) (.tmp 7) rfl rfl (l' := E) rfl H4.out (Zs_length _) Hd.out.1 ?_)
  intro w5 H5 Hm5 Hs5
  have B5 : Hid (Below w.heap.size w w5) := Lib.hid (by
    have h := abon B3.out Hb4.out
    exact h.trans (Hm5.out.below (fun j hj => by rw [hj, G2.out]; exact B3.out.size) h.size))
  clear H4 Hb4 Hs4 Hm5 Hs5 B3
  go_wp2_with fail
  refine wp_region_to (fun (b : Nat × Nat × Option Addr × Nat) a => (((((((a.put (some 9) (.slice (some ⟨b.1, 0, none⟩) 32 32)).put (some 10) (.slice (some ⟨b.2.1, 0, none⟩) 16 16)).put (some 11) (.tuple #[.slice b.2.2.1 3 b.2.2.2, .int .i64 0])).put (some 8) (.tuple #[.slice b.2.2.1 3 b.2.2.2, .int .i64 0])).put (some 12) (.slice b.2.2.1 3 b.2.2.2)).put (some 13) (.int .i64 0)).put (some 3) (.slice b.2.2.1 3 b.2.2.2)).put (some 4) (.int .i64 0)) (fun _ w' => Below w5.heap.size w5 w') ?_ ?_
  · refine wp_region_heldD (S := fun w' => Below w5.heap.size w5 w') (by kernel_rfl) ?_
    refine wpAnyH_twoD (i := 0) (j := 1) (by kernel_rfl) rfl rfl (fun K1 hK1 => ?_) (fun K1 hK1 => ?_)
    · refine stepE_make (some 9) rfl rfl _ _ 22 rfl 5 Try.underlying22 Try.info_u8 32 rfl rfl (by omega) (fun WQ1 ga G HA hW => hK1.out _ _ (abon ((bdrewN (Below.refl _ _) 1 : Below w5.heap.size w5 (w5.drewN 1))) hW.out) ?_)
      have Q1 := Lib.hid (abon ((bdrewN (Below.refl _ _) 1 : Below w5.heap.size w5 (w5.drewN 1))) hW.out)
      have QA := HA
      clear hW hK1 K1 G HA
      simp only [Act.put, List.setIfInBounds_toArray, List.set_cons_zero, List.set_cons_succ]
      refine wpAnyH_oneD (i := 1) (by kernel_rfl) rfl (fun K1 hK1 => ?_)
      refine stepE_make (some 10) rfl rfl _ _ 22 rfl 5 Try.underlying22 Try.info_u8 16 rfl rfl (by omega) (fun WQ2 gb G HA hW => hK1.out _ _ (abon (Q1.out) hW.out) ?_)
      have Q2 := Lib.hid (abon (Q1.out) hW.out)
      have Q2B := HA
      have Q2A := Lib.hid (QA.out.below hW.out QA.out.lt)
      clear hW hK1 K1 G HA QA
      simp only [Act.put, List.setIfInBounds_toArray, List.set_cons_zero, List.set_cons_succ]
      refine wpAnyH_oneD (i := 2) (by kernel_rfl) rfl (fun K1 hK1 => ?_)
      refine stepE_callV (R := fun v w' => ∃ A c, v = .tuple #[.slice A 3 c, .int .i64 0] ∧ Below _ _ w') (some 11) rfl (by rfl) 9 Try.func9 (by kernel_rfl) rfl _ _ rfl [.slice (some ⟨ga, 0, none⟩) 32 32, .slice (some ⟨gb, 0, none⟩) 16 16, .int .i64 3] rfl (Hst.out _ ga gb Q2A.out Q2B.out) (fun v W3 hW => ?_)
      obtain ⟨A, c, rfl, hW⟩ := hW
      refine hK1.out _ _ (abon Q2.out hW) ?_
      have Q3 := Lib.hid (abon Q2.out hW)
      clear hW hK1 K1
      simp only [Act.put, List.setIfInBounds_toArray, List.set_cons_zero, List.set_cons_succ]
      refine wpAnyH_takeD (i := 3) (v := .tuple #[.slice A 3 c, .int .i64 0]) (some 8) rfl rfl (by kernel_rfl) (fun _ _ _ h => by cases h.1) (.inl ⟨by rfl, fun W _ => rfl⟩) (Q3.out) ?_
      simp only [Act.put, List.setIfInBounds_toArray, List.set_cons_zero, List.set_cons_succ]
      refine wpAnyH_takeD (i := 4) (v := .slice A 3 c) (some 12) rfl rfl (by kernel_rfl) (fun _ _ _ h => by cases h.1) (.inl ⟨by rfl, fun W _ => rfl⟩) (Q3.out) ?_
      simp only [Act.put, List.setIfInBounds_toArray, List.set_cons_zero, List.set_cons_succ]
      refine wpAnyH_takeD (i := 5) (v := .int .i64 0) (some 13) rfl rfl (by kernel_rfl) (fun _ _ _ h => by cases h.1) (.inl ⟨by rfl, fun W _ => rfl⟩) (Q3.out) ?_
      simp only [Act.put, List.setIfInBounds_toArray, List.set_cons_zero, List.set_cons_succ]
      refine wpAnyH_oneD (i := 6) (by kernel_rfl) rfl (fun K1 hK1 => ?_)
      go_simp
      refine hK1.out _ _ Q3.out ?_
      clear hK1 K1
      refine wpAnyH_oneD (i := 7) (by kernel_rfl) rfl (fun K1 hK1 => ?_)
      go_simp
      refine hK1.out _ _ Q3.out ?_
      exact wpAnyH_doneD (by kernel_rfl) ⟨rfl, (ga, gb, A, c), rfl, Q3.out⟩
    · refine stepE_make (some 10) rfl rfl _ _ 22 rfl 5 Try.underlying22 Try.info_u8 16 rfl rfl (by omega) (fun WQ1 gb G HA hW => hK1.out _ _ (abon ((bdrewN (Below.refl _ _) 1 : Below w5.heap.size w5 (w5.drewN 1))) hW.out) ?_)
      have Q1 := Lib.hid (abon ((bdrewN (Below.refl _ _) 1 : Below w5.heap.size w5 (w5.drewN 1))) hW.out)
      have QA := HA
      clear hW hK1 K1 G HA
      simp only [Act.put, List.setIfInBounds_toArray, List.set_cons_zero, List.set_cons_succ]
      refine wpAnyH_oneD (i := 0) (by kernel_rfl) rfl (fun K1 hK1 => ?_)
      refine stepE_make (some 9) rfl rfl _ _ 22 rfl 5 Try.underlying22 Try.info_u8 32 rfl rfl (by omega) (fun WQ2 ga G HA hW => hK1.out _ _ (abon (Q1.out) hW.out) ?_)
      have Q2 := Lib.hid (abon (Q1.out) hW.out)
      have Q2A := HA
      have Q2B := Lib.hid (QA.out.below hW.out QA.out.lt)
      clear hW hK1 K1 G HA QA
      simp only [Act.put, List.setIfInBounds_toArray, List.set_cons_zero, List.set_cons_succ]
      refine wpAnyH_oneD (i := 2) (by kernel_rfl) rfl (fun K1 hK1 => ?_)
      refine stepE_callV (R := fun v w' => ∃ A c, v = .tuple #[.slice A 3 c, .int .i64 0] ∧ Below _ _ w') (some 11) rfl (by rfl) 9 Try.func9 (by kernel_rfl) rfl _ _ rfl [.slice (some ⟨ga, 0, none⟩) 32 32, .slice (some ⟨gb, 0, none⟩) 16 16, .int .i64 3] rfl (Hst.out _ ga gb Q2A.out Q2B.out) (fun v W3 hW => ?_)
      obtain ⟨A, c, rfl, hW⟩ := hW
      refine hK1.out _ _ (abon Q2.out hW) ?_
      have Q3 := Lib.hid (abon Q2.out hW)
      clear hW hK1 K1
      simp only [Act.put, List.setIfInBounds_toArray, List.set_cons_zero, List.set_cons_succ]
      refine wpAnyH_takeD (i := 3) (v := .tuple #[.slice A 3 c, .int .i64 0]) (some 8) rfl rfl (by kernel_rfl) (fun _ _ _ h => by cases h.1) (.inl ⟨by rfl, fun W _ => rfl⟩) (Q3.out) ?_
      simp only [Act.put, List.setIfInBounds_toArray, List.set_cons_zero, List.set_cons_succ]
      refine wpAnyH_takeD (i := 4) (v := .slice A 3 c) (some 12) rfl rfl (by kernel_rfl) (fun _ _ _ h => by cases h.1) (.inl ⟨by rfl, fun W _ => rfl⟩) (Q3.out) ?_
      simp only [Act.put, List.setIfInBounds_toArray, List.set_cons_zero, List.set_cons_succ]
      refine wpAnyH_takeD (i := 5) (v := .int .i64 0) (some 13) rfl rfl (by kernel_rfl) (fun _ _ _ h => by cases h.1) (.inl ⟨by rfl, fun W _ => rfl⟩) (Q3.out) ?_
      simp only [Act.put, List.setIfInBounds_toArray, List.set_cons_zero, List.set_cons_succ]
      refine wpAnyH_oneD (i := 6) (by kernel_rfl) rfl (fun K1 hK1 => ?_)
      go_simp
      refine hK1.out _ _ Q3.out ?_
      clear hK1 K1
      refine wpAnyH_oneD (i := 7) (by kernel_rfl) rfl (fun K1 hK1 => ?_)
      go_simp
      refine hK1.out _ _ Q3.out ?_
      exact wpAnyH_doneD (by kernel_rfl) ⟨rfl, (ga, gb, A, c), rfl, Q3.out⟩
  · rintro ⟨ga, gb, A, c⟩ w6 hb6
    have h1 := H5.out.below hb6 H5.out.lt
    have c14 := h1.at_ Hd.out.2.1
    have c15 := h1.at_ Hd.out.2.2
    have B6 : Hid (Below w.heap.size w w6) := Lib.hid (abon B5.out hb6)
    clear hb6 h1
    simp only [Act.put, List.setIfInBounds_toArray, List.set_cons_zero, List.set_cons_succ]
    go_wp2
    go_ret
    exact ⟨rfl, B6.out⟩

end Go.Proofs.Ytfkfkmdnffpcmaa

namespace Go.Proofs.Ytfkfkmdnffpcmaa
open Go.RowKit

set_option maxHeartbeats 400000 in
theorem rsame_any (B n m c d : Nat) (A C : Option Addr) (xs ys : List UInt8) (w : World) (hx : Rd w B A n (Byt xs)) (hy : Rd w B C m (Byt ys)) (hn : n ≤ maxLen) (hm : m ≤ maxLen) :
    Calls Try.prog 13 #[.slice A n c, .slice C m d] w (Ans w (.bool (sameL xs ys))) := by
  unfold maxLen at hn hm
  have hxl := hx.bytes
  have hyl := hy.bytes
  have Hx := Lib.hid hxl; clear hxl
  have Hy := Lib.hid hyl; clear hyl
  by_cases hnm : n = m
  · subst hnm
    go_enter Try.func13, Try.ntmps13
    go_wp2
    go_loopw [5] (fun i wr => ∃ k j : Nat, k ≤ n ∧ i = .int .i64 k ∧ xs.take k = ys.take k ∧ wr = w.drewN j) (fun i _ => n - (intOf i).toNat)
    case atStart => exact ⟨0, 0, Nat.zero_le _, rfl, rfl, rfl⟩
    case round =>
      obtain ⟨k, j, hk, rfl, ht, rfl⟩ := hrel
      have Ht := Lib.hid ht; clear ht
      by_cases hlt : k < n
      · have hkx : k < xs.length := by rw [Hx.out]; exact hlt
        have hky : k < ys.length := by rw [Hy.out]; exact hlt
        obtain ⟨b, o, rfl, hb, hc⟩ := hx.byte hlt hkx
        obtain ⟨b', o', rfl, hb', hc'⟩ := hy.byte hlt hky
        go_wp2
        go_quiet (fail)
        go_wp2
        · have h := same_not hkx hky (by assumption)
          go_ret
          exact ⟨by rw [h]; rfl, by first | exact bdrewN (Below.refl _ _) _ | exact bdrewN (bdrewN (Below.refl _ _) _) _⟩
        · have h := same_step hkx hky Ht.out (by assumption)
          go_roundw
          case rel => exact ⟨k + 1, _, by omega, by go_num, h, rfl⟩
          case measure => simp [intOf]; omega
      · have h := same_all (by rw [Hx.out]; omega) (by rw [Hy.out]; omega) Ht.out
        go_wp2
        go_ret
        exact ⟨by rw [h]; rfl, by first | exact bdrewN (Below.refl _ _) _ | exact bdrewN (bdrewN (Below.refl _ _) _) _⟩
  · have hne : (((n : Nat) : Int) != (m : Int)) = true := by simp; omega
    have h : sameL xs ys = false := decide_eq_false (fun e => hnm (by rw [← Hx.out, ← Hy.out, e]))
    have H := Lib.hid h; clear h
    go_enter Try.func13, Try.ntmps13
    go_wp2
    go_ret
    exact ⟨by rw [H.out]; rfl, Below.refl _ _⟩


end Go.Proofs.Ytfkfkmdnffpcmaa

/-
  From a law's walk to its row: the arguments read behind the call as they did, the result is true.
-/
namespace Go.Proofs.Ytfkfkmdnffpcmaa
open Go.ChangeShapes Go.WideShapes Go.ChangeAt Go.RowKit

theorem bon {w w1 w2 : World} (h : Below w.heap.size w w1) (k : Below w1.heap.size w1 w2) : Below w.heap.size w w2 := h.trans (k.mono h.size)

section
variable {H : Type} {enc : TypeId × Value → H} {P : Program}

/-- All arguments at once, carried over a call that turned no old block. -/
theorem trodAll_carry (hl : laidOutB P = true) {W W' : World} (hb : Below W.heap.size W W') :
    ∀ (ts : List TypeId) (vs : List Value) (ds : List (DataW H)) (ps : List MemPlace), (ts.all fun t => P.readableRec t && decide (t < P.types.size)) = true →
      DataW.TrodAll enc P W 0 (fun _ => true) true ts vs ds ps → (∀ x ∈ ps, x.block < W.heap.size) → DataW.TrodAll enc P W' 0 (fun b => decide (b < W.heap.size)) true ts vs ds ps
  | [], [], [], _, _, h, _ => h
  | t :: ts, v :: vs, d :: ds, ps, ht, h, hlt => by
    obtain ⟨p, q, h1, h2, rfl⟩ := h
    simp only [List.all_cons, Bool.and_eq_true, decide_eq_true_eq] at ht
    obtain ⟨⟨r1, r2⟩, r3⟩ := ht
    exact ⟨p, q, Below.trod hl r1 r2 h1 hb (fun x hx => hlt x (List.mem_append.2 (.inl hx))), trodAll_carry hl hb ts vs ds q r3 h2 (fun x hx => hlt x (List.mem_append.2 (.inr hx))), rfl⟩
  | [], _ :: _, _, _, _, h, _ => by cases h
  | [], [], _ :: _, _, _, h, _ => by cases h
  | _ :: _, [], _, _, _, h, _ => by cases h
  | _ :: _, _ :: _, [], _, _, h, _ => by cases h

/-- WHAT A LAW OWES BEHIND ITS WALK: old memory is as it was, the answer is true. -/
theorem law_post {f : Func} {s : ChangeSpec} {W W' : World} {args : Array Value} {ds gs : List (DataW H)} {before : List MemPlace} {tb : TypeId}
    (hl : laidOutB P = true) (hvars : s.vars = []) (hres : f.resultTypes = #[tb]) (htb : P.underlying tb = some .bool)
    (hts : (f.params.toList.all fun t => P.readableRec t && decide (t < P.types.size)) = true)
    (hW : DataW.Whole enc P f.params.toList s.vars false W args.toList ds gs before)
    (hfn0 : s.fn H ds = { results := [.lit (.bool true)], args := ds }) (hb : Below W.heap.size W W') :
    s.post enc P f false true false false W args (.bool true) W' := by
  have hlt : ∀ x ∈ before, x.block < W.heap.size := fun x hx => by simpa using hW.lt x hx
  obtain ⟨p, q, hA, hV, hpq, hz, hn⟩ := hW
  have hq : gs = [] ∧ q = [] := by
    rw [hvars] at hV
    match gs, hV with
    | [], hV => exact ⟨rfl, hV⟩
  obtain ⟨rfl, rfl⟩ := hq
  rw [List.append_nil] at hpq
  subst hpq
  have hfn : s.fn H (ds ++ []) = { results := [.lit (.bool true)], args := ds } := by rw [List.append_nil]; exact hfn0
  refine ⟨ds, [], before, [], before, [], ⟨before, [], hA, hV, by simp, hz, hn⟩, ?_, ?_, ?_, hb.frame _, fun h => by cases h⟩
  · rw [hfn, hres]
    exact trodAll_mk1 (shut_bool htb true)
  · rw [hfn]
    exact trodAll_carry hl hb _ _ _ _ hts hA hlt
  · rw [hfn, hvars]
    exact rfl
end

theorem wf_u64 {n : Int} (h : (Lit.int .u64 n).wf = true) : ∃ k : Nat, n = (k : Int) ∧ k < 18446744073709551616 := by
  simp only [Lit.wf, Bool.and_eq_true, decide_eq_true_eq] at h
  have e1 : IntKind.u64.min = 0 := rfl
  have e2 : IntKind.u64.max = 18446744073709551615 := rfl
  exact ⟨n.toNat, by omega, by omega⟩
theorem wf_u32 {n : Int} (h : (Lit.int .u32 n).wf = true) : ∃ k : Nat, n = (k : Int) ∧ k < 4294967296 := by
  simp only [Lit.wf, Bool.and_eq_true, decide_eq_true_eq] at h
  have e1 : IntKind.u32.min = 0 := rfl
  have e2 : IntKind.u32.max = 4294967295 := rfl
  exact ⟨n.toNat, by omega, by omega⟩
theorem wf_int {n : Int} (h : (Lit.int .i64 n).wf = true) : -9223372036854775808 ≤ n ∧ n ≤ 9223372036854775807 := by
  simp only [Lit.wf, Bool.and_eq_true, decide_eq_true_eq] at h
  have e1 : IntKind.i64.min = -9223372036854775808 := rfl
  have e2 : IntKind.i64.max = 9223372036854775807 := rfl
  omega

/-- A slice of bytes that came in. -/
theorem open_bytes {H : Type} {enc : TypeId × Value → H} {P : Program} {w : World} {base : Nat} {held : Bool} {t e : TypeId} (ht : P.underlying t = some (.slice e)) (he : P.underlying e = some (.int .u8)) (hc : P.cellsOf e = 1)
    {r : Reach} {b0 : Nat} {v : Value} {d : DataW H} {ps : List MemPlace} (hval : Value.okWide P w r b0 t v) (hd : DataW.Trod enc P w base (fun _ => true) held t v d ps) (hlt : ∀ x ∈ ps, x.block < w.heap.size) :
    ∃ A n c xs, v = .slice A n c ∧ n ≤ maxLen ∧ Rd w w.heap.size A n (Byt xs) := by
  obtain ⟨A, n, c, rfl⟩ := okWide_slice ht hval
  obtain ⟨fuel, hf⟩ := hd
  rcases open_ints ht he hc hf with ⟨hcs, _⟩ | ⟨a, n', c', zs, hcs, _, hl, hm, hz, hx, hcell, hwz⟩
  · simp [Value.cells] at hcs
    obtain ⟨rfl, rfl, rfl⟩ := hcs
    exact ⟨none, 0, 0, [], rfl, Nat.zero_le _, Rd.nil⟩
  · simp [Value.cells] at hcs
    obtain ⟨rfl, rfl, rfl⟩ := hcs
    simp only [Prod.mk.injEq] at hx
    obtain ⟨-, rfl⟩ := hx
    simp only [if_true] at hz
    have hby : ∀ i (hi : i < zs.length), zs[i] = ((UInt8.ofNat zs[i].toNat).toNat : Int) := by
      intro i hi
      have h := hwz zs[i] (List.getElem_mem hi)
      simp only [Lit.wf, Bool.and_eq_true, decide_eq_true_eq] at h
      have h1 : IntKind.u8.min = 0 := rfl
      have h2 : IntKind.u8.max = 255 := rfl
      rw [UInt8.toNat_ofNat']
      omega
    have hlen : ((zs.take n).map fun z => UInt8.ofNat z.toNat).length = n := by simp; omega
    refine ⟨some a, n, c, (zs.take n).map (fun z => UInt8.ofNat z.toNat), rfl, by omega, by rw [Byt_length]; exact hlen, fun hn => ?_⟩
    obtain ⟨b, o, sp⟩ := a
    have hsp : sp = none := by simpa [Addr.add] using World.cell?_spot (hcell 0 (by omega))
    subst hsp
    refine ⟨b, o, rfl, hlt (.cell b o) (MemPlace.mem_row.2 ⟨0, by omega, by simp⟩), fun j u hj => ?_⟩
    have hj' : j < ((zs.take n).map fun z => UInt8.ofNat z.toNat).length := by
      have := (List.getElem?_eq_some_iff.1 hj).1
      rwa [Byt_length] at this
    rw [Byt_get hj'] at hj
    injection hj with hj
    rw [← hj, ← add_flat, hcell j (by omega)]
    simp only [List.getElem_map, List.getElem_take]
    rw [← hby j (by omega)]
    simp [List.getD, List.getElem?_eq_getElem (show j < zs.length by omega)]

end Go.Proofs.Ytfkfkmdnffpcmaa

/-
  Rows of fields (a struct of two ints, a number and bytes). No program is named here.
-/
namespace Go.Proofs.Ytfkfkmdnffpcmaa
open Go.RowKit

/-- A field: what it holds, and where its bytes lie. -/
structure Fld where
  kind : Int
  size : Int
  num : Nat
  A : Option Addr
  m : Nat
  c : Nat
  bs : List UInt8
instance : Inhabited Fld := ⟨⟨0, 0, 0, none, 0, 0, []⟩⟩
def Fld.cells (f : Fld) : Array Value := #[.int .i64 f.kind, .int .i64 f.size, .int .u64 (f.num : Int), .slice f.A f.m f.c]
/-- What the field's parts keep. -/
structure FldOK (w : World) (B : Nat) (f : Fld) : Prop where
  kind : -9223372036854775808 ≤ f.kind ∧ f.kind ≤ 9223372036854775807
  size : -9223372036854775808 ≤ f.size ∧ f.size ≤ 9223372036854775807
  num : f.num < 18446744073709551616
  ok : SlOK f.A f.m f.c
  rd : Rd w B f.A f.m (Byt f.bs)
/-- The slice reads as fields: four cells each. -/
def Flds (w : World) (B : Nat) (A : Option Addr) (n : Nat) (fs : List Fld) : Prop :=
  fs.length = n ∧ (∀ f ∈ fs, FldOK w B f) ∧ (0 < n → ∃ b o, A = some ⟨b, o, none⟩ ∧ b < B ∧ ∀ j (hj : j < fs.length),
    w.cell? ⟨b, o + j * 4, none⟩ = some (.int .i64 fs[j].kind) ∧ w.cell? ⟨b, o + j * 4 + 1, none⟩ = some (.int .i64 fs[j].size) ∧ w.cell? ⟨b, o + j * 4 + 2, none⟩ = some (.int .u64 (fs[j].num : Int)) ∧ w.cell? ⟨b, o + j * 4 + 3, none⟩ = some (.slice fs[j].A fs[j].m fs[j].c))
section
variable {w w' : World} {B n : Nat} {A : Option Addr} {fs : List Fld}
theorem FldOK.keep {f : Fld} (h : FldOK w B f) (hk : ∀ p : Addr, p.block < B → w'.cell? p = w.cell? p) : FldOK w' B f := ⟨h.kind, h.size, h.num, h.ok, h.rd.keep hk⟩
theorem Flds.keep (h : Flds w B A n fs) (hk : ∀ p : Addr, p.block < B → w'.cell? p = w.cell? p) : Flds w' B A n fs :=
  ⟨h.1, fun f hf => (h.2.1 f hf).keep hk, fun hn => by
    obtain ⟨b, o, e, hb, hc⟩ := h.2.2 hn
    exact ⟨b, o, e, hb, fun j hj => by
      obtain ⟨h0, h1, h2, h3⟩ := hc j hj
      exact ⟨(hk _ hb).trans h0, (hk _ hb).trans h1, (hk _ hb).trans h2, (hk _ hb).trans h3⟩⟩⟩
theorem Flds.below (h : Flds w B A n fs) (hb : Below B w w') : Flds w' B A n fs := h.keep fun _ hp => hb.cell hp
theorem Flds.get (h : Flds w B A n fs) {j : Nat} (hj : j < fs.length) : FldOK w B fs[j] := h.2.1 _ (List.getElem_mem hj)
theorem Flds.at_ (h : Flds w B A n fs) {j : Nat} (hj : j < fs.length) : ∃ b o, A = some ⟨b, o, none⟩ ∧ b < B ∧
    w.cell? ⟨b, o + j * 4, none⟩ = some (.int .i64 fs[j].kind) ∧ w.cell? ⟨b, o + j * 4 + 1, none⟩ = some (.int .i64 fs[j].size) ∧ w.cell? ⟨b, o + j * 4 + 2, none⟩ = some (.int .u64 (fs[j].num : Int)) ∧ w.cell? ⟨b, o + j * 4 + 3, none⟩ = some (.slice fs[j].A fs[j].m fs[j].c) := by
  obtain ⟨b, o, e, hb, hc⟩ := h.2.2 (by have := h.1; omega)
  exact ⟨b, o, e, hb, hc j hj⟩
end

end Go.Proofs.Ytfkfkmdnffpcmaa

/-
  A slice of fields that came in. No program is named here.
-/
namespace Go.Proofs.Ytfkfkmdnffpcmaa
open Go.ChangeShapes Go.WideShapes Go.ChangeAt Go.RowKit

section
variable {H : Type} {enc : TypeId × Value → H} {P : Program} {w : World} {base : Nat} {held : Bool}

/-- A slice of bytes in a cell. -/
theorem bytes_cell {t e : TypeId} (ht : P.underlying t = some (.slice e)) (he : P.underlying e = some (.int .u8)) (hc : P.cellsOf e = 1)
    {fuel : Nat} {v : Value} {x : DataW H × List MemPlace} (hf : DataW.trod enc P w base (fun _ => true) held fuel t [v] = some x) (hlt : ∀ p ∈ x.2, p.block < w.heap.size) :
    ∃ A n c bs, v = .slice A n c ∧ SlOK A n c ∧ Rd w w.heap.size A n (Byt bs) := by
  rcases open_ints ht he hc hf with ⟨hcs, _⟩ | ⟨a, n, c, zs, hcs, _, hl, hm, hz, hx, hcell, hwz⟩
  · simp at hcs
    subst hcs
    exact ⟨none, 0, 0, [], rfl, .nil, Rd.nil⟩
  · simp at hcs
    subst hcs
    obtain ⟨x1, x2⟩ := x
    simp only [Prod.mk.injEq] at hx
    obtain ⟨-, rfl⟩ := hx
    simp only [if_true] at hz
    have hby : ∀ i (hi : i < zs.length), zs[i] = ((UInt8.ofNat zs[i].toNat).toNat : Int) := by
      intro i hi
      have h := hwz zs[i] (List.getElem_mem hi)
      simp only [Lit.wf, Bool.and_eq_true, decide_eq_true_eq] at h
      have h1 : IntKind.u8.min = 0 := rfl
      have h2 : IntKind.u8.max = 255 := rfl
      rw [UInt8.toNat_ofNat']
      omega
    rcases Nat.eq_zero_or_pos c with h0 | h0
    · subst h0
      obtain rfl : n = 0 := by omega
      exact ⟨_, 0, 0, [], rfl, .inr ⟨a, rfl, by omega, Nat.zero_le _⟩, ⟨rfl, fun h => by omega⟩⟩
    · have hlen : ((zs.take n).map fun z => UInt8.ofNat z.toNat).length = n := by simp; omega
      obtain ⟨b, o, sp⟩ := a
      have hsp : sp = none := by simpa [Addr.add] using World.cell?_spot (hcell 0 (by omega))
      subst hsp
      refine ⟨some ⟨b, o, none⟩, n, c, (zs.take n).map (fun z => UInt8.ofNat z.toNat), rfl, .inr ⟨_, rfl, hl, hm⟩, by rw [Byt_length]; exact hlen, fun hn => ?_⟩
      refine ⟨b, o, rfl, hlt (.cell b o) (MemPlace.mem_row.2 ⟨0, by omega, by simp⟩), fun j u hj => ?_⟩
      have hj' : j < ((zs.take n).map fun z => UInt8.ofNat z.toNat).length := by
        have := (List.getElem?_eq_some_iff.1 hj).1
        rwa [Byt_length] at this
      rw [Byt_get hj'] at hj
      injection hj with hj
      rw [← hj, ← add_flat, hcell j (by omega)]
      simp only [List.getElem_map, List.getElem_take]
      rw [← hby j (by omega)]
      simp [List.getD, List.getElem?_eq_getElem (show j < zs.length by omega)]

/-- A slice of bytes that came in, with what it may look like. -/
theorem open_bytesk {t e : TypeId} (ht : P.underlying t = some (.slice e)) (he : P.underlying e = some (.int .u8)) (hc : P.cellsOf e = 1)
    {r : Reach} {b0 : Nat} {v : Value} {d : DataW H} {ps : List MemPlace} (hval : Value.okWide P w r b0 t v) (hd : DataW.Trod enc P w base (fun _ => true) held t v d ps) (hlt : ∀ x ∈ ps, x.block < w.heap.size) :
    ∃ A n c bs, v = .slice A n c ∧ SlOK A n c ∧ Rd w w.heap.size A n (Byt bs) := by
  obtain ⟨A, n, c, rfl⟩ := okWide_slice ht hval
  obtain ⟨fuel, hf⟩ := hd
  exact bytes_cell ht he hc hf hlt

theorem take1 {v0 v1 v2 v3 : Value} : ([v0, v1, v2, v3].drop 0).take 1 = [v0] ∧ ([v0, v1, v2, v3].drop 1).take 1 = [v1] ∧ ([v0, v1, v2, v3].drop 2).take 1 = [v2] ∧ ([v0, v1, v2, v3].drop 3).take 1 = [v3] := ⟨rfl, rfl, rfl, rfl⟩

/-- A field in four cells. -/
theorem fld_cells {t ti tn tb te : TypeId} {f0 f1 f2 f3 : Field} (ht : P.underlying t = some (.struct #[f0, f1, f2, f3])) (o0 : f0.offset = 0 ∧ f0.type = ti) (o1 : f1.offset = 1 ∧ f1.type = ti) (o2 : f2.offset = 2 ∧ f2.type = tn) (o3 : f3.offset = 3 ∧ f3.type = tb)
    (hi : P.underlying ti = some (.int .i64)) (hn : P.underlying tn = some (.int .u64)) (hb : P.underlying tb = some (.slice te)) (he : P.underlying te = some (.int .u8)) (ce : P.cellsOf te = 1) (ci : P.cellsOf ti = 1) (cn : P.cellsOf tn = 1) (cb : P.cellsOf tb = 1) (ct : P.cellsOf t = 4)
    {fuel : Nat} {cs : List Value} {x : DataW H × List MemPlace} (h : DataW.trod enc P w base (fun _ => true) held fuel t cs = some x) (hlt : ∀ p ∈ x.2, p.block < w.heap.size) :
    ∃ f : Fld, FldOK w w.heap.size f ∧ cs = [.int .i64 f.kind, .int .i64 f.size, .int .u64 (f.num : Int), .slice f.A f.m f.c] := by
  obtain ⟨xs, n, _, hx, hl, hxl, hfs⟩ := DataW.trod_struct ht h
  rw [ct] at hl
  match cs, hl with
  | [v0, v1, v2, v3], _ =>
    obtain ⟨t0, t1, t2, t3⟩ := @take1 v0 v1 v2 v3
    have g0 := hfs 0 f0 rfl
    have g1 := hfs 1 f1 rfl
    have g2 := hfs 2 f2 rfl
    have g3 := hfs 3 f3 rfl
    rw [o0.1, o0.2, ci, t0] at g0
    rw [o1.1, o1.2, ci, t1] at g1
    rw [o2.1, o2.2, cn, t2] at g2
    rw [o3.1, o3.2, cb, t3] at g3
    have hxl4 : xs.length = 4 := hxl
    match xs, hxl4 with
    | [x0, x1, x2, x3], _ =>
      simp at g0 g1 g2 g3
      obtain ⟨z0, e0, _, w0⟩ := DataW.trod_int hi g0
      obtain ⟨z1, e1, _, w1⟩ := DataW.trod_int hi g1
      obtain ⟨z2, e2, _, w2⟩ := DataW.trod_int hn g2
      obtain ⟨A, m, c, bs, e3, hok, hrd⟩ := bytes_cell hb he ce g3 (fun p hp => hlt p (by rw [hx]; simp [hp]))
      obtain ⟨k, rfl, hk⟩ := wf_u64 w2
      injection e0 with e0 _
      injection e1 with e1 _
      injection e2 with e2 _
      subst e0 e1 e2 e3
      exact ⟨⟨z0, z1, k, A, m, c, bs⟩, ⟨wf_int w0, wf_int w1, hk, hok, hrd⟩, rfl⟩

/-- A slice of fields that came in. -/
theorem open_flds {t e ti tn tb te : TypeId} {f0 f1 f2 f3 : Field} (hs : P.underlying t = some (.slice e)) (ht : P.underlying e = some (.struct #[f0, f1, f2, f3])) (o0 : f0.offset = 0 ∧ f0.type = ti) (o1 : f1.offset = 1 ∧ f1.type = ti) (o2 : f2.offset = 2 ∧ f2.type = tn) (o3 : f3.offset = 3 ∧ f3.type = tb)
    (hi : P.underlying ti = some (.int .i64)) (hn : P.underlying tn = some (.int .u64)) (hb : P.underlying tb = some (.slice te)) (he : P.underlying te = some (.int .u8)) (ce : P.cellsOf te = 1) (ci : P.cellsOf ti = 1) (cn : P.cellsOf tn = 1) (cb : P.cellsOf tb = 1) (ct : P.cellsOf e = 4)
    {r : Reach} {b0 : Nat} {v : Value} {d : DataW H} {ps : List MemPlace} (hval : Value.okWide P w r b0 t v) (hd : DataW.Trod enc P w base (fun _ => true) held t v d ps) (hlt : ∀ x ∈ ps, x.block < w.heap.size) :
    ∃ A n c fs, v = .slice A n c ∧ n ≤ maxLen ∧ Flds w w.heap.size A n fs := by
  obtain ⟨A, n, c, rfl⟩ := okWide_slice hs hval
  obtain ⟨fuel, hf⟩ := hd
  rcases Go.Deep.open_slice hs hf with ⟨hcs, _⟩ | ⟨a, n', c', m, q, D, Pl, hcs, _, hl, hm, hmm, hx, hel⟩
  · simp [Value.cells] at hcs
    obtain ⟨rfl, rfl, rfl⟩ := hcs
    exact ⟨none, 0, 0, [], rfl, Nat.zero_le _, rfl, (fun f hf => by cases hf), (fun h => by omega)⟩
  · simp [Value.cells] at hcs
    obtain ⟨rfl, rfl, rfl⟩ := hcs
    simp only [if_true] at hmm
    subst hmm
    simp only [Prod.mk.injEq] at hx
    obtain ⟨-, rfl⟩ := hx
    rw [ct] at hel
    have each : ∀ i, i < n → ∃ f : Fld, FldOK w w.heap.size f ∧ w.cells? base (a.add (i * 4)) 4 = some [.int .i64 f.kind, .int .i64 f.size, .int .u64 (f.num : Int), .slice f.A f.m f.c] := by
      intro i hi'
      obtain ⟨cs, h1, h2⟩ := hel i (by omega)
      obtain ⟨f, hok, rfl⟩ := fld_cells ht o0 o1 o2 o3 hi hn hb he ce ci cn cb ct h2 (fun p hp => hlt p (List.mem_append.2 (.inr (List.mem_flatMap.2 ⟨i, List.mem_range.2 (by omega), hp⟩))))
      exact ⟨f, hok, h1⟩
    obtain ⟨G, hG⟩ := Go.Deep.choose_lt (α := Fld) (p := fun i f => FldOK w w.heap.size f ∧ w.cells? base (a.add (i * 4)) 4 = some [.int .i64 f.kind, .int .i64 f.size, .int .u64 (f.num : Int), .slice f.A f.m f.c]) each
    refine ⟨some a, n, _, (List.range n).map G, rfl, by omega, by simp, fun f hf => ?_, fun h0 => ?_⟩
    · obtain ⟨i, hi', rfl⟩ := List.mem_map.1 hf
      exact (hG i (List.mem_range.1 hi')).1
    · obtain ⟨b, o, sp⟩ := a
      have hsp : sp = none := by
        have := World.cells?_some (hG 0 h0).2
        have h1 := this.2.2 0 (by omega)
        simpa [Addr.add] using World.cell?_spot h1
      subst hsp
      refine ⟨b, o, rfl, hlt (.cell b o) (List.mem_append.2 (.inl (MemPlace.mem_row.2 ⟨0, by rw [ct]; omega, by simp⟩))), fun j hj => ?_⟩
      have hj' : j < n := by simpa using hj
      have hc := (World.cells?_some (hG j hj').2).2.2
      simp only [add_flat] at hc
      have e : ((List.range n).map G)[j] = G j := by simp
      rw [e]
      exact ⟨hc 0 (by omega), hc 1 (by omega), hc 2 (by omega), hc 3 (by omega)⟩
end

end Go.Proofs.Ytfkfkmdnffpcmaa
