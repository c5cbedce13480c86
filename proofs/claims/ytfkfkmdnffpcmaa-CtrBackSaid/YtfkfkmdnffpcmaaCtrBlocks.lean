import Derived.Test.YtfkfkmdnffpcmaaCtrTell
import Derived.Test.YtfkfkmdnffpcmaaAesSched
namespace Go.Proofs.Ytfkfkmdnffpcmaa
open Go.RowKit

/-- The function that tells blocks. -/
def ctellV (g1 g2 : Nat) : Value := .func (.func 26) #[] #[.pointer (some ⟨g1, 0, none⟩), .pointer (some ⟨g2, 0, none⟩)]

theorem cblocks_form (m d n c : Nat) (A C : Option Addr) (w : World) (h : n ≠ 16) :
    Calls Try.prog 17 #[.slice A m d, .slice C n c] w (fun e w' => e = .returned (.tuple #[.nilFunc, .int .i64 4]) ∧ w' = w) := by
  have hz : ((n : Int) != 16) = true := by simp; omega
  go_enter Try.func17, Try.ntmps17
  go_wp2
  exact bodyPost_ret (results_tmp2 rfl _ _ _) rfl ⟨rfl, rfl⟩
theorem cblocks_none (m d c : Nat) (A C : Option Addr) (w : World) (h : m ≠ 32) :
    Calls Try.prog 17 #[.slice A m d, .slice C 16 c] w (Ans w (.tuple #[.nilFunc, .int .i64 4])) := by
  have c1 := fun W => asched_none m d A W h
  go_enter Try.func17, Try.ntmps17
  go_wp2_with fail
  refine (c1 _).mono ?_
  rintro e w1 ⟨rfl, hb⟩
  go_wp2_with (refine wp_alloc_arr (k := .u8) rfl 47 rfl 240 zeroKeys ?_)
  intro w2 g1 G1 H1 Hb1 Hs1
  go_wp2_with (refine wp_put_w arrKeys rfl (.tmp 6) (.tmp 15) rfl rfl (l' := Zs 240) rfl H1.out (Zs_length _) (Zs_length _) ?_)
  intro w3 H3 Hm3 Hs3
  go_wp2
  exact bodyPost_ret (results_tmp2 rfl _ _ _) rfl ⟨rfl, (abon hb Hb1.out).trans (Hm3.out.below (fun j hj => by have := G1.out; have := hb.size; omega) (abon hb Hb1.out).size)⟩
set_option maxHeartbeats 1600000 in
theorem cblocks_any (key s : List UInt8) (c d B : Nat) (A C : Option Addr) (w : World) (hr : Rd w B A 32 (Byt key)) (hc : 32 ≤ c) (hs : Rd w B C 16 (Byt s)) (hB : B ≤ w.heap.size) :
    Calls Try.prog 17 #[.slice A 32 c, .slice C 16 d] w (fun e w' => ∃ g1 g2 : Nat, e = .returned (.tuple #[ctellV g1 g2, .int .i64 0]) ∧
      SK w [(g1, 47, abn (akeysU key)), (g2, 23, abn s)] w' ∧ w.heap.size ≤ g1 ∧ w.heap.size ≤ g2) := by
  have c1 := fun W (h : Below w.heap.size w W) => asched_key key c B A W (hr.below (h.mono hB)) hc (Nat.le_trans hB h.size)
  have hl := hs.bytes
  obtain ⟨sb, so, rfl, hsb, hcell⟩ := hs.2 (by omega)
  have Hcell : Hid (∀ j u, (Byt s)[j]? = some u → w.cell? ⟨sb, so + j, none⟩ = some u) := Lib.hid hcell
  have Hsb : Hid (sb < w.heap.size) := Lib.hid (by omega)
  have H1 : Hid ((abn s).length = 16) := Lib.hid (by rw [abn_length, hl])
  have H2 : Hid ((abn (akeysU key)).length = 240) := Lib.hid (by rw [abn_length]; exact akeys_length hr.bytes)
  have Hce : Hid (∀ j u, ((abn s).map fun (n : Nat) => Value.int .u8 (n : Int))[j]? = some u → w.cell? ⟨sb, so + j, none⟩ = some u) := Lib.hid (fun j u hu => Hcell.out j u (by rw [← hu]; simp [abn, Byt]; rfl))
  clear hcell hl hr hs hB hsb Hcell
  revert c1 H1 H2 Hce
  generalize abn (akeysU key) = K
  generalize abn s = L
  intro c1 H1 H2 Hce
  go_enter Try.func17, Try.ntmps17
  go_wp2_with fail
  refine (c1 _ (Below.refl _ _)).mono ?_
  rintro e w1 ⟨rfl, hb⟩
  have Hb := Lib.hid hb; clear hb
  go_wp2_with (refine wp_alloc_arr (k := .u8) rfl 47 rfl 240 zeroKeys ?_)
  intro w2 g1 G1 H3 Hb1 Hs1
  go_wp2_with (refine wp_put_w arrKeys rfl (.tmp 6) (.tmp 15) rfl rfl (l' := K) rfl H3.out (Zs_length _) H2.out ?_)
  intro w3 H4 Hm3 Hs3
  have hat := fun W => run_arrayAt (P := Try.prog) arr16 (some ⟨sb, so, none⟩) 16 d (Nat.le_refl _) W
  have B3 : Hid (Below w.heap.size w w3) := Lib.hid (by
    have h := abon Hb.out Hb1.out
    exact h.trans (Hm3.out.below (fun j hj => by have := G1.out; have := Hb.out.size; omega) h.size))
  have Hg1 : Hid (w.heap.size ≤ g1) := Lib.hid (by have := G1.out; have := Hb.out.size; omega)
  have Hrg : Hid (w3.rangeAt sb so (L.map fun (n : Nat) => Value.int .u8 (n : Int))) := Lib.hid (fun j u hu => by
    have h := Hce.out j u hu
    rw [← h]
    exact B3.out.cell (p := ⟨sb, so + j, none⟩) Hsb.out)
  clear c1 Hb H3 Hb1 Hs1 G1 Hm3 Hs3
  go_wp2_with (first
    | refine wpList_load_mid rfl 23 (.tmp 21) rfl sb so rfl (L.map fun (n : Nat) => Value.int .u8 (n : Int)) _ Hrg.out arr16.under rfl (by rw [List.length_map, H1.out]; exact info_16) ?_
    | refine wp_alloc_arr (k := .u8) rfl 23 rfl 16 zero16 ?_)
  intro w4 g2 G2 H5 Hb4 Hs4
  go_wp2_with (refine wp_put_arr arr16 rfl (.tmp 8) (.tmp 22) rfl rfl (l' := L) rfl H5.out (Zs_length _) H1.out ?_)
  intro w5 H6 Hm5 Hs5
  have Hg2 : Hid (w.heap.size ≤ g2 ∧ g1 ≠ g2) := Lib.hid (by have := G2.out; have := B3.out.size; have := H4.out.lt; omega)
  have S5 : Hid (SK w [(g1, 47, K), (g2, 23, L)] w5) := Lib.hid ⟨by
    have h1 := (H4.out.below Hb4.out H4.out.lt).moves Hm5.out Hg2.out.2
    intro x hx
    simp only [List.mem_cons, List.not_mem_nil, or_false] at hx
    rcases hx with rfl | rfl
    · exact h1
    · exact H6.out, by
    have h := abon B3.out Hb4.out
    exact h.trans (Hm5.out.below (fun j hj => by rw [hj]; exact Hg2.out.1) h.size)⟩
  clear H4 Hb4 Hs4 H5 Hm5 Hs5 H6 G2 B3 Hrg hat
  go_wp2
  exact bodyPost_ret (results_tmp2 rfl _ _ _) rfl ⟨g1, g2, rfl, S5.out, Hg1.out, Hg2.out.1⟩

end Go.Proofs.Ytfkfkmdnffpcmaa
