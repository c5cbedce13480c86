import Derived.Test.YtfahiamogjcikaaHexDigit
import Derived.Test.YtfahiamogjcikaaNewP
namespace Go.Proofs.Ytfahiamogjcikaa
open Go.RowKit

set_option maxHeartbeats 6400000 in
theorem hparse_any (s : ByteArray) (w : World) (hs : s.size ≤ 1099511627776) :
    Calls Try.prog 7 #[.string s] w (NewP 5 w (hparseV s.data.toList)) := by
  have hsl : s.data.toList.length = s.size := by simp
  have Hsl := Lib.hid hsl; clear hsl
  go_enter Try.func7, Try.ntmps7
  go_wp2
  go_loopw [6, 7, 14] (fun v h i wr => ∃ (k n c hi : Nat) (A : Option Addr), k ≤ s.size ∧ Hid (n = k / 2) ∧ i = .int .i64 k ∧ v = .slice A n c ∧ h = .int .u8 (hi : Int) ∧ hi < 256 ∧
    Hid (k % 2 = 1 → ∀ c, s.data.toList[k - 1]? = some c → hi = vU c * 16) ∧ Hid (badAt 0 s.data.toList = badAt k (s.data.toList.drop k)) ∧
    wr.ownsRow (w.heap.size + 1) 5 1 (.slice A n c) n (Byt (pairsU (s.data.toList.take k))) ∧ Below (w.heap.size + 1) (w.alloc (.cells #[.string s] 9)) wr) (fun _ _ i _ => s.size - (intOf i).toNat)
  case atStart => exact ⟨0, 0, 0, 0, none, Nat.zero_le _, Lib.hid rfl, rfl, rfl, rfl, by omega, Lib.hid (fun h => by omega), Lib.hid rfl, own_nil _ _ _, Below.refl _ _⟩
  case round =>
    obtain ⟨k, n, c, hi, A, hk, Hn, rfl, rfl, rfl, hh, Hhi, Hbad, hown, hbr⟩ := hrel
    have hbox : wr.cell? ⟨w.heap.size, 0, none⟩ = some (.string s) := by
      rw [hbr.cell (p := ⟨w.heap.size, 0, none⟩) (by simp)]
      exact cell_of_row (w.alloc (.cells #[.string s] 9)) w.heap.size 0 _ _ (0, 0) (heap_alloc_new w _)
    have hsz := hbr.size
    by_cases hlt : k < s.size
    · have hkl : k < s.data.toList.length := by simpa using hlt
      have hd := hpdigit_any w.heap.size s k hlt wr hbox
      obtain ⟨b1, b2⟩ := bad_at hkl Hbad.out
      obtain ⟨d, hdv⟩ : ∃ d : Nat, vU s[k] = d := ⟨_, rfl⟩
      have hd16 : d < 16 := by rw [← hdv]; exact vU_lt _
      rw [hdv] at hd
      have hb0 : Below w.heap.size w wr := ((Below.refl w.heap.size w).alloc (Nat.le_refl _) _).trans (hbr.mono (by omega))
      cases ho : okU s[k] with
      | false =>
        have hb' := b2 ho
        rw [ho] at hd
        have Hb' := Lib.hid hb'; clear hb' b1 b2
        have Hdv := Lib.hid hdv; clear hdv
        have Ho := Lib.hid ho; clear ho
        go_wp2_with fail
        refine hd.mono ?_
        rintro e w1 ⟨rfl, rfl⟩
        go_wp2
        go_ret3
        exact ⟨none, 0, by rw [hparse_bad Hb'.out]; rfl, by rw [hparse_bad Hb'.out]; exact own_nil _ _ _, hb0⟩
      | true =>
        have hb' := b1 ho
        rw [ho] at hd
        have Hb' := Lib.hid hb'; clear hb' b1 b2
        have Ho := Lib.hid ho; clear ho
        have Hb0 := Lib.hid hb0; clear hb0
        by_cases hev : k % 2 = 0
        · have he2 : ((k : Int) % 2 == 0) = true := by simp; omega
          have hst := pairs_step0 hkl hev
          have Hst := Lib.hid hst; clear hst
          have hnx : (k + 1) % 2 = 1 → ∀ c, s.data.toList[k + 1 - 1]? = some c → d * 16 = vU c * 16 := by
            intro _ c hc
            rw [Nat.add_sub_cancel, List.getElem?_eq_getElem hkl] at hc
            injection hc with hc
            subst hc
            rw [← hdv]; rfl
          have Hnx := Lib.hid hnx; clear hnx
          have Hdv := Lib.hid hdv; clear hdv
          go_wp2_with fail
          refine hd.mono ?_
          rintro e w1 ⟨rfl, rfl⟩
          go_wp2
          go_roundw
          case rel => exact ⟨k + 1, n, c, d * 16, A, by omega, Lib.hid (by have := Hn.out; omega), by go_num, rfl, by simp, by omega, Hnx, Hb', by rw [Hst.out]; exact hown, hbr⟩
          case measure => simp [intOf]; omega
        · have he2 : ((k : Int) % 2 == 0) = false := by simp; omega
          have hst := pairs_odd hkl (by omega)
          have hhv := Hhi.out (by omega) _ (List.getElem?_eq_getElem (by omega))
          have hz : bits .or .u8 (hi : Int) (d : Int) = ((byU (s.data.toList[k - 1]'(by omega)) s.data.toList[k]).toNat : Int) := by
            rw [bits_join .u8 8 (by decide) wraps_u8 4 (hi : Int) (d : Int) (by omega) (by omega) (by omega) (by omega) (by omega) (by omega), byU_nat]
            have e : vU s.data.toList[k] = d := hdv
            rw [e]
            omega
          have hn0 := Hn.out
          have hsm : n + 1 ≤ 17592186044416 := by omega
          have Hst := Lib.hid hst; clear hst
          have Hhv := Lib.hid hhv; clear hhv
          have Hz := Lib.hid hz; clear hz
          have Hdv := Lib.hid hdv; clear hdv
          clear hn0
          go_wp2_with fail
          refine hd.mono ?_
          rintro e w1 ⟨rfl, rfl⟩
          go_wp2_with (refine wp_append_rd rfl _ _ 22 rfl 5 Try.underlying22 (.int .u8 0) 1 (by omega) rfl Try.info_u8 (w.heap.size + 1) n c A _ rfl (hown.alloc _) (w1.heap.size + 1) 1 1 _ _ rfl (Rd.byte1 w1 _ _ _ Hz.out) (Byt_one _) (by omega) (by omega) (by simp at hsz ⊢; omega) (w.alloc (.cells #[.string s] 9)) (w.heap.size + 1) (hbr.alloc (by simpa using hsz) _) (Nat.le_refl _) ?_)
          intro A2 c2 w2 hown2 hb2
          have hown3 : w2.ownsRow (w.heap.size + 1) 5 1 (.slice A2 (n + 1) c2) (n + 1) (Byt (pairsU (s.data.toList.take (k + 1)))) := by rw [Hst.out, Byt_append]; exact hown2
          clear hown2
          go_wp2
          go_roundw
          case rel => exact ⟨k + 1, n + 1, c2, hi, A2, by omega, Lib.hid (by have := Hn.out; omega), by go_num, rfl, rfl, hh, Lib.hid (fun h => by omega), Hb', hown3, hb2⟩
          case measure => simp [intOf]; omega
    · obtain rfl : k = s.size := by omega
      have hb : badAt 0 s.data.toList = none := by rw [Hbad.out, ← Hsl.out, List.drop_length]; rfl
      have Hb2 := Lib.hid hb; clear hb
      have hb0 : Below w.heap.size w wr := ((Below.refl w.heap.size w).alloc (Nat.le_refl _) _).trans (hbr.mono (by omega))
      have Hb0 := Lib.hid hb0; clear hb0
      by_cases hev : s.size % 2 = 1
      · have he2 : ((s.size : Int) % 2 != 0) = true := by simp; omega
        have hp := hparse_odd Hb2.out (by rw [Hsl.out]; exact hev)
        rw [Hsl.out] at hp
        have Hp := Lib.hid hp; clear hp
        go_wp2
        go_quiet (fail)
        go_wp2
        go_ret3
        exact ⟨none, 0, by rw [Hp.out]; rfl, by rw [Hp.out]; exact own_nil _ _ _, bdrewN Hb0.out _⟩
      · have he2 : ((s.size : Int) % 2 != 0) = false := by simp; omega
        have hp := hparse_ok Hb2.out (by rw [Hsl.out]; omega)
        have Hp := Lib.hid hp; clear hp
        have hall : s.data.toList.take s.size = s.data.toList := List.take_of_length_le (by simp)
        rw [hall] at hown
        clear hall
        have hln := own_len hown
        have Hln := Lib.hid hln; clear hln
        go_wp2
        go_ret3
        exact ⟨A, c, by rw [Hp.out, Hln.out]; rfl, by rw [Hp.out, Hln.out]; exact own_base hown (by omega), Hb0.out⟩

end Go.Proofs.Ytfahiamogjcikaa
