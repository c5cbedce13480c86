import Derived.Test.YtfahiamogjcikaaRefHexPrint
namespace Go.Proofs.Ytfahiamogjcikaa
open Go.RowKit

/-- The midst of what is read. -/
theorem Rd.mid {w : World} {B n b o p q : Nat} {xs : List Value} (h : Rd w B (some ⟨b, o, none⟩) n xs) (hq : p + q ≤ n) : Rd w B (some ⟨b, o + p, none⟩) q ((xs.drop p).take q) := by
  refine ⟨by rw [List.length_take, List.length_drop, h.1]; omega, fun h0 => ?_⟩
  obtain ⟨b', o', e, hb, hc⟩ := h.2 (by omega)
  injection e with e
  injection e with e1 e2
  subst e1 e2
  refine ⟨b, o + p, rfl, hb, fun j u hu => ?_⟩
  rw [List.getElem?_take] at hu
  split at hu
  · rw [List.getElem?_drop] at hu
    rw [Nat.add_assoc]
    exact hc _ u hu
  · cases hu
theorem Rd.cut {w : World} {B n b o p q m k : Nat} {xs : List UInt8} (h : Rd w B (some ⟨b, o, none⟩) n (Byt xs)) (hp : p = k * m) (hq : q = min m (n - p)) (hpn : p ≤ n) : Rd w B (some ⟨b, o + p, none⟩) q (Byt (cutU m xs k)) := by
  have := h.mid (p := p) (q := q) (by omega)
  have e : Byt (cutU m xs k) = ((Byt xs).drop p).take q := by
    unfold cutU
    rw [Byt_take, Byt_drop, ← hp, List.take_eq_take_min, List.length_drop, h.1, hq]
  rw [e]; exact this
theorem num_of {m n k p : Nat} {xs : List UInt8} (hx : xs.length = n) (hm : 0 < m) (hp : p = k * m) (h1 : ¬ p < n) (h2 : p < n + m) : k = numU m xs := by
  have a1 := (num_lt (l := xs) (k := k) hm)
  rcases k with _ | k
  · have : ¬ 0 < numU m xs := fun h => h1 (by rw [hp, ← hx]; exact a1.2 h)
    omega
  · have a2 := (num_lt (l := xs) (k := k) hm)
    rw [Nat.succ_mul] at hp
    have b1 : k < numU m xs := a2.1 (by rw [hx]; omega)
    have b2 : ¬ k + 1 < numU m xs := fun h => by
      have := a1.2 h
      rw [Nat.succ_mul, hx] at this
      omega
    omega

theorem Try.infoStrH : (Try.prog.info? 9).map (fun i => (i.zero, i.size, i.bytes)) = some (some (.string ⟨#[]⟩), 1, 16) := by kernel_rfl

set_option maxHeartbeats 6400000 in
theorem rhrows_any (B n c : Nat) (A : Option Addr) (xs : List UInt8) (z : Int) (w : World) (hx : Rd w B A n (Byt xs)) (hB : B ≤ w.heap.size) (hn : n ≤ 1099511627776) (hnc : n ≤ c) :
    Calls Try.prog 14 #[.slice A n c, .int .i64 z] w (NewS 9 w (hrowsV xs z)) := by
  have hxl := hx.bytes
  unfold hrowsV
  by_cases hz : z < 1
  · rw [if_pos (.inl hz)]
    have Hx := Lib.hid hxl; clear hxl
    go_enter Try.func14, Try.ntmps14
    go_wp2
    go_ret
    exact ⟨none, 0, rfl, own_nil _ _ _, Below.refl _ _⟩
  · by_cases hz2 : 64 < z
    · rw [if_pos (.inr hz2)]
      have Hx := Lib.hid hxl; clear hxl
      go_enter Try.func14, Try.ntmps14
      go_wp2
      go_ret
      exact ⟨none, 0, rfl, own_nil _ _ _, Below.refl _ _⟩
    · rw [if_neg (by omega)]
      obtain ⟨m, rfl⟩ : ∃ m : Nat, z = (m : Int) := ⟨z.toNat, by omega⟩
      rw [Int.toNat_natCast]
      have hm0 : 0 < m := by omega
      have hm64 : m ≤ 64 := by omega
      have hz' : decide ((64 : Int) < (m : Int)) = false := decide_eq_false (by omega)
      have Hx := Lib.hid hxl; clear hxl
      go_enter Try.func14, Try.ntmps14
      go_wp2
      go_loopw [5, 6] (fun v i wr => ∃ (k p n' c' : Nat) (A' : Option Addr), Hid (p = k * m) ∧ p < n + m ∧ i = .int .i64 p ∧ v = .slice A' n' c' ∧ Hid (n' = k) ∧ wr.ownsRow w.heap.size 9 1 (.slice A' n' c') n' (Sts ((cutsU m xs k).map hexU)) ∧ Below w.heap.size w wr) (fun _ i _ => n + m - (intOf i).toNat)
      case atStart => exact ⟨0, 0, 0, 0, none, Lib.hid (by omega), by omega, rfl, rfl, Lib.hid rfl, own_nil _ _ _, Below.refl _ _⟩
      case round =>
        obtain ⟨k, p, n', c', A', Hp, hp, rfl, rfl, Hn', hown, hbr⟩ := hrel
        by_cases hlt : p < n
        · have hlen : n' ≤ n := by
            rw [Hn'.out]
            have h1 := Hp.out
            have h2 : k * 1 ≤ k * m := Nat.mul_le_mul_left _ hm0
            omega
          have hsz := hbr.size
          obtain ⟨b, o, rfl, hb, hcell⟩ := hx.2 (by omega)
          have hst := cuts_succ m xs k
          have hsum : k < n := by
            have h1 := Hp.out
            have h2 : k * 1 ≤ k * m := Nat.mul_le_mul_left _ hm0
            omega
          by_cases hfit : p + m ≤ n
          · have hsm : n' + 1 ≤ 8796093022208 := by omega
            have hr := fun c => rhprint_any B m c _ (cutU m xs k) wr ((hx.keep fun _ hp => hbr.cell (by omega)).cut Hp.out (by omega) (by omega)) (by omega)
            have t1 : (p : Int) + (m : Int) ≤ (n : Int) := by omega
            have t2 : ((p : Int) + (m : Int)).toNat = p + m := by omega
            have t3 : p + m - p = m := by omega
            have t4 : p ≤ p + m := by omega
            have t5 : p + m ≤ c := by omega
            have Hst := Lib.hid hst; clear hst
            go_wp2_with fail
            refine (hr _).mono ?_
            rintro e w1 ⟨rfl, hb1⟩
            have hown1 := own_below hown hb1 (Nat.le_refl _)
            have hbr1 := hbr.trans (hb1.mono hsz)
            have hsz1 := hbr1.size
            go_wp2_with (refine wp_append_wide rfl _ _ 30 rfl 9 Try.underlying30 (.string ⟨#[]⟩) 16 (by omega) rfl Try.infoStrH w.heap.size n' c' A' _ rfl (hown1.alloc _) (w1.heap.size + 1) 1 1 _ _ rfl (Rd.new w1 _ #[.string (tx (hexU (cutU m xs k)))] rfl) (by intro u hu; simp at hu; subst hu; rfl) (by omega) (by omega) (by simp; omega) w w.heap.size (hbr1.alloc hsz1 _) (Nat.le_refl _) ?_)
            intro A2 c2 w2 hown2 hb2
            have hown3 : w2.ownsRow w.heap.size 9 1 (.slice A2 (n' + 1) c2) (n' + 1) (Sts ((cutsU m xs (k + 1)).map hexU)) := by rw [Hst.out, List.map_append, Sts_append]; exact hown2
            clear hown2
            go_wp2
            go_roundw
            case rel => exact ⟨k + 1, p + m, n' + 1, c2, A2, Lib.hid (by rw [Nat.succ_mul, Hp.out]), by omega, by go_num, rfl, Lib.hid (by rw [Hn'.out]), hown3, hb2⟩
            case measure => simp [intOf]; omega
          · have hsm : n' + 1 ≤ 8796093022208 := by omega
            have hr := fun c => rhprint_any B (n - p) c _ (cutU m xs k) wr ((hx.keep fun _ hp => hbr.cell (by omega)).cut Hp.out (by omega) (by omega)) (by omega)
            have t1 : ¬ ((p : Int) + (m : Int) ≤ (n : Int)) := by omega
            have t2 : (n : Int) < (p : Int) + (m : Int) := by omega
            have Hst := Lib.hid hst; clear hst
            go_wp2_with fail
            refine (hr _).mono ?_
            rintro e w1 ⟨rfl, hb1⟩
            have hown1 := own_below hown hb1 (Nat.le_refl _)
            have hbr1 := hbr.trans (hb1.mono hsz)
            have hsz1 := hbr1.size
            go_wp2_with (refine wp_append_wide rfl _ _ 30 rfl 9 Try.underlying30 (.string ⟨#[]⟩) 16 (by omega) rfl Try.infoStrH w.heap.size n' c' A' _ rfl (hown1.alloc _) (w1.heap.size + 1) 1 1 _ _ rfl (Rd.new w1 _ #[.string (tx (hexU (cutU m xs k)))] rfl) (by intro u hu; simp at hu; subst hu; rfl) (by omega) (by omega) (by simp; omega) w w.heap.size (hbr1.alloc hsz1 _) (Nat.le_refl _) ?_)
            intro A2 c2 w2 hown2 hb2
            have hown3 : w2.ownsRow w.heap.size 9 1 (.slice A2 (n' + 1) c2) (n' + 1) (Sts ((cutsU m xs (k + 1)).map hexU)) := by rw [Hst.out, List.map_append, Sts_append]; exact hown2
            clear hown2
            go_wp2
            go_roundw
            case rel => exact ⟨k + 1, p + m, n' + 1, c2, A2, Lib.hid (by rw [Nat.succ_mul, Hp.out]), by omega, by go_num, rfl, Lib.hid (by rw [Hn'.out]), hown3, hb2⟩
            case measure => simp [intOf]; omega
        · have hk := num_of Hx.out hm0 Hp.out hlt hp
          subst hk
          have hln := ownS_len hown
          have Hln := Lib.hid hln; clear hln
          go_wp2
          go_ret
          exact ⟨A', c', by rw [Hln.out]; rfl, by rw [Hln.out]; exact hown, hbr⟩

end Go.Proofs.Ytfahiamogjcikaa
