import Derived.Test.YtckljalcmjomgaaAesSched
import Derived.Test.YtckljalcmjomgaaAesEnc
import Derived.Test.YtckljalcmjomgaaInts
namespace Go.Proofs.Ytckljalcmjomgaa
open Go.RowKit

theorem akeyX_get {i : Nat} (h : i < 32) : akeyX[i]? = some (UInt8.ofNat i) := by simp [akeyX, h]
theorem akeyX_length : akeyX.length = 32 := by simp [akeyX]
theorem akeyX_step {i : Nat} (h : i < 32) : Byt (akeyX.take (i + 1)) = Byt (akeyX.take i) ++ [.int .u8 (i : Int)] := by
  rw [List.take_add_one, akeyX_get h, Byt_append]
  congr 1
  have h2 : (UInt8.ofNat i).toNat = i := by rw [UInt8.toNat_ofNat']; omega
  simp [Byt, h2]
theorem ablockX_length : ablockX.length = 16 := by simp [ablockX]
theorem ablockX_get {i : Nat} (h : i < 16) : (abn ablockX)[i]? = some (17 * i) := by
  have h2 : (UInt8.ofNat (17 * i)).toNat = 17 * i := by rw [UInt8.toNat_ofNat']; omega
  have h1 : ablockX[i]? = some (UInt8.ofNat (17 * i)) := by simp [ablockX, h]
  rw [abn_get h1, h2]
theorem alive_at {j x : Nat} (h : [142, 162, 183, 202][j]? = some x) : (abn (aencU (akeysU akeyX) ablockX))[j]? = some x := by
  have hj : j < 4 := (List.getElem?_eq_some_iff.1 h).1
  have e : (abn (aencU (akeysU akeyX) ablockX)).take 4 = [142, 162, 183, 202] := by
    have h := congrArg (List.map (·.toNat)) alive_math
    rw [List.map_take] at h
    exact h
  rw [← e, List.getElem?_take_of_lt hj] at h
  exact h

set_option maxHeartbeats 1600000 in
theorem alive11_any (w : World) : Calls Try.prog 14 #[] w (Ans w (.bool true)) := by
  go_enter Try.func14, Try.ntmps14
  go_wp2_with (refine wp_alloc_arr (k := .u8) rfl 22 rfl 16 zero16 ?_)
  intro w2 g2 G2 H2 Hb2 Hs2
  have hnil : w2.ownsRow (w.heap.size + 1) 5 1 (.slice none 0 0) 0 (Byt (akeyX.take 0)) := ⟨rfl, .inl ⟨rfl, rfl⟩⟩
  go_wp2
  go_loopw [1, 3] (fun s i wr => ∃ (k c : Nat) (A : Option Addr), k ≤ 32 ∧ s = .slice A k c ∧ i = .int .i64 (k : Int) ∧ Hid (wr.ownsRow (w.heap.size + 1) 5 1 (.slice A k c) k (Byt (akeyX.take k))) ∧ Hid (Arr wr g2 22 .u8 (Zs 16)) ∧ Hid (Below w.heap.size w wr) ∧ Hid (w.heap.size + 1 ≤ wr.heap.size)) (fun _ i _ => 32 - (intOf i).toNat)
  case atStart => exact ⟨0, 0, none, by omega, rfl, rfl, Lib.hid hnil, H2, Hb2, Lib.hid (by have := Hs2.out; omega)⟩
  case round =>
    clear hnil
    obtain ⟨k, c, A, hk, rfl, rfl, Hown, HA, Hbr, Hsz⟩ := hrel
    by_cases hlt : k < 32
    · have hsz := Hbr.out.size
      go_wp2_with (refine wp_append_rd rfl _ _ 27 rfl 5 Try.underlying27 (.int .u8 0) 1 (by omega) rfl Try.info_u8 (w.heap.size + 1) k c A _ rfl (Hown.out.alloc _) (wr.heap.size + 1) 1 1 _ _ rfl (Rd.new wr _ #[.int .u8 (k : Int)] rfl) (by intro u hu; simp at hu; subst hu; rfl) (by omega) (by omega) (by have := Hsz.out; simp; omega) wr (w.heap.size + 1) ((Below.refl _ _).alloc Hsz.out _) (Nat.le_refl _) ?_)
      intro A1 c1 w1 hown1 hb1
      have Hown1 : Hid (w1.ownsRow (w.heap.size + 1) 5 1 (.slice A1 (k + 1) c1) (k + 1) (Byt (akeyX.take (k + 1)))) := Lib.hid (by rw [akeyX_step hlt]; exact hown1)
      have HA1 : Hid (Arr w1 g2 22 .u8 (Zs 16)) := Lib.hid (HA.out.below hb1 (by have := G2.out; omega))
      have Hb1 : Hid (Below w.heap.size w w1) := Lib.hid (Hbr.out.trans (hb1.mono (by omega)))
      have Hsz1 : Hid (w.heap.size + 1 ≤ w1.heap.size) := Lib.hid (Nat.le_trans Hsz.out hb1.size)
      clear hown1 hb1 Hown HA Hbr Hsz
      go_wp2
      go_roundw
      case rel => exact ⟨k + 1, c1, A1, by omega, rfl, by go_num, Hown1, HA1, Hb1, Hsz1⟩
      case measure => simp [intOf]; omega
    · obtain rfl : k = 32 := by omega
      have Hown2 : Hid (wr.ownsRow (w.heap.size + 1) 5 1 (.slice A 32 c) 32 (Byt akeyX)) := Lib.hid (by have h := Hown.out; rw [List.take_of_length_le (by rw [akeyX_length]; omega)] at h; exact h)
      have HA2 : Hid (Arr wr g2 22 .u8 ((abn ablockX).take 0 ++ (Zs 16).drop 0)) := Lib.hid HA.out
      have HLx : Hid ((abn ablockX).length = 16) := Lib.hid (by rw [abn_length, ablockX_length])
      have Hbl : Hid (∀ i, i < 16 → (abn ablockX)[i]? = some (17 * i)) := Lib.hid (fun i hi => ablockX_get hi)
      clear Hown HA
      generalize hM : abn ablockX = M at *
      have HM := Lib.hid hM
      clear hM
      go_wp2
      go_loopw [4] (fun i wr => ∃ k : Nat, k ≤ 16 ∧ i = .int .i64 (k : Int) ∧ Hid (wr.ownsRow (w.heap.size + 1) 5 1 (.slice A 32 c) 32 (Byt akeyX)) ∧ Hid (Arr wr g2 22 .u8 (M.take k ++ (Zs 16).drop k)) ∧ Hid (Below w.heap.size w wr) ∧ Hid (w.heap.size + 1 ≤ wr.heap.size)) (fun i _ => 16 - (intOf i).toNat)
      case atStart => exact ⟨0, by omega, rfl, Hown2, HA2, Hbr, Hsz⟩
      case round =>
        clear Hown2 HA2 Hbr Hsz
        obtain ⟨k, hk, rfl, Hown, HA, Hbr, Hsz⟩ := hrel
        by_cases hlt : k < 16
        · have hfz := HA.out.frozen k
          have hout := HA.out.at_ (fill_get (L := M) (M := Zs 16) (i := k) (by rw [Zs_length]; exact hlt) (by rw [HLx.out]; omega))
          go_wp2
          go_roundw
          case rel =>
            refine ⟨k + 1, by omega, by go_num, Lib.hid (own_moves Hown.out ((Moves.refl (fun j => j = g2) wr).setCell (.inl rfl) _) (fun j hj => by
              obtain ⟨g, e, h1, h2⟩ := own_some Hown.out (by omega)
              subst e
              simp [Value.ownBlock] at hj
              have := G2.out
              omega)), Lib.hid ?_, Lib.hid (Hbr.out.setCell (by have := G2.out; show w.heap.size ≤ g2; omega) _), Lib.hid (by simpa using Hsz.out)⟩
            rw [← afill_step (Hbl.out k hlt) (by rw [Zs_length]; exact hlt)]
            exact HA.out.put (by omega)
          case measure => simp [intOf]; omega
        · obtain rfl : k = 16 := by omega
          have HA3 : Hid (Arr wr g2 22 .u8 M) := Lib.hid (by have h := HA.out; rw [fill_all HLx.out (Zs_length _)] at h; exact h)
          have hc : 32 ≤ c := by
            rcases Hown.out.2 with ⟨h', _⟩ | ⟨g', cap, cur, h', hg, hh, hnc, _⟩
            · simp at h'
            · injection h' with _ _ h3
              omega
          have csch := fun W (hb : Hid (Below wr.heap.size wr W)) => asched_key akeyX c wr.heap.size A W ((Rd.of_own Hown.out).below hb.out) hc hb.out.size
          have Hkl : Hid ((akeysU akeyX).length = 240) := Lib.hid (akeys_length akeyX_length)
          have HKl : Hid ((abn (akeysU akeyX)).length = 240) := Lib.hid (by rw [abn_length]; exact Hkl.out)
          have cenc := fun W => aenc_any (akeysU akeyX) ablockX W Hkl.out ablockX_length
          have Hal : Hid (∀ j x : Nat, [142, 162, 183, 202][j]? = some x → (abn (aencU (akeysU akeyX) ablockX))[j]? = some x) := Lib.hid (fun j x h => alive_at h)
          have HEl : Hid ((abn (aencU (akeysU akeyX) ablockX)).length = 16) := Lib.hid (by rw [abn_length]; exact aenc_length Hkl.out)
          rw [HM.out] at cenc
          revert csch HKl cenc Hal HEl
          generalize abn (aencU (akeysU akeyX) ablockX) = E
          generalize abn (akeysU akeyX) = K
          intro csch HKl cenc Hal HEl
          go_wp2_with fail
          refine (csch _ (Lib.hid (Below.refl _ _))).mono ?_
          rintro e w3 ⟨rfl, hb3⟩
          have Ha3 : Hid (Arr w3 g2 22 .u8 M) := Lib.hid (HA3.out.below hb3 HA3.out.lt)
          have Hb3 : Hid (Below w.heap.size w w3) := Lib.hid (abon Hbr.out hb3)
          clear hb3 csch HA3 HA Hbr Hown
          go_wp2_with (refine wp_alloc_arr (k := .u8) rfl 29 rfl 240 zeroKeys ?_)
          intro w4 g4 G4 H4 Hb4 Hs4
          go_wp2_with (refine wp_put_w arrKeys rfl (.tmp 5) (.tmp 29) rfl rfl (l' := K) rfl H4.out (Zs_length _) HKl.out ?_)
          intro w5 H5 Hm5 Hs5
          have Hg4 : Hid (g2 ≠ g4 ∧ w.heap.size ≤ g4) := Lib.hid (by have := G4.out; have := Ha3.out.lt; have := Hb3.out.size; omega)
          have Ha5 : Hid (Arr w5 g2 22 .u8 M) := Lib.hid ((Ha3.out.below Hb4.out Ha3.out.lt).moves Hm5.out Hg4.out.1)
          have Hb5 : Hid (Below w.heap.size w w5) := Lib.hid ((abon Hb3.out Hb4.out).trans (Hm5.out.below (fun j hj => by rw [hj]; exact Hg4.out.2) (abon Hb3.out Hb4.out).size))
          clear Ha3 Hb3 Hm5 Hs5 H4 Hb4 Hs4 G4 Hg4
          go_wp2_with (first
            | refine wp_load_w arrKeys rfl (.tmp 5) rfl rfl H5.out HKl.out ?_
            | refine wp_load_arr arr16 rfl (.tmp 2) rfl rfl Ha5.out HLx.out ?_)
          refine (cenc _).mono ?_
          rintro e w6 ⟨rfl, hb6⟩
          have Hb6 : Hid (Below w.heap.size w w6) := Lib.hid (abon Hb5.out hb6)
          clear hb6 Ha5 Hb5 H5 cenc
          go_wp2_with (refine wp_alloc_arr (k := .u8) rfl 22 rfl 16 zero16 ?_)
          intro w7 g7 G7 H7 Hb7 Hs7
          go_wp2_with (refine wp_put_arr arr16 rfl (.tmp 7) (.tmp 33) rfl rfl (l' := E) rfl H7.out (Zs_length _) HEl.out ?_)
          intro w8 H8 Hm8 Hs8
          have Hb8 : Hid (Below w.heap.size w w8) := Lib.hid ((abon Hb6.out Hb7.out).trans (Hm8.out.below (fun j hj => by rw [hj]; have := G7.out; have := Hb6.out.size; omega) (abon Hb6.out Hb7.out).size))
          have e0 := H8.out.at_ (Hal.out 0 142 rfl)
          have e1 := H8.out.at_ (Hal.out 1 162 rfl)
          have e2 := H8.out.at_ (Hal.out 2 183 rfl)
          have e3 := H8.out.at_ (Hal.out 3 202 rfl)
          go_wp2
          go_ret
          exact ⟨rfl, Hb8.out⟩

end Go.Proofs.Ytckljalcmjomgaa
