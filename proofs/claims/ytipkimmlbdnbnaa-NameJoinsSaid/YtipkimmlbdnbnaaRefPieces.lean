import Derived.Test.YtipkimmlbdnbnaaNameS
import Derived.Test.YtipkimmlbdnbnaaStrs
import Derived.Test.YtipkimmlbdnbnaaUtfV
import Derived.Laws.Concat
namespace Go.Proofs.Ytipkimmlbdnbnaa
open Go.RowKit

theorem Try.infoStrR : (Try.prog.info? 9).map (fun i => (i.zero, i.size, i.bytes)) = some (some (.string ⟨#[]⟩), 1, 16) := by kernel_rfl

/-- The pieces of the first k bytes. -/
theorem pieces_zero : pieces [] = [[]] := rfl
theorem pieces_dot (l : List UInt8) : pieces (l ++ [46]) = pieces l ++ [[]] := by
  unfold pieces
  rw [foldP_snoc]
  rfl
theorem fold_len : ∀ (t : List UInt8) (d : List (List UInt8)) (c : List UInt8), (t.foldl stepP (d, c)).2.length ≤ c.length + t.length
  | [], d, c => by simp
  | b :: t, d, c => by
    rw [List.foldl_cons]
    by_cases h : b = 46
    · subst h
      have e : stepP (d, c) 46 = (d ++ [c], []) := rfl
      rw [e]
      have := fold_len t (d ++ [c]) []
      simp at this ⊢; omega
    · have e : stepP (d, c) b = (d, c ++ [b]) := if_neg h
      rw [e]
      have := fold_len t d (c ++ [b])
      simp at this ⊢; omega
theorem pieces_byte (l : List UInt8) (b : UInt8) (h : b ≠ 46) (m : Nat) (hm : (pieces l).length = m + 1) : ∃ z, (pieces l)[m]? = some z ∧ z.length ≤ l.length ∧ pieces (l ++ [b]) = (pieces l).set m (z ++ [b]) := by
  have e : foldP (l ++ [b]) = ((foldP l).1, (foldP l).2 ++ [b]) := by rw [foldP_snoc]; exact if_neg h
  unfold pieces at hm ⊢
  rw [e]
  have hm : m = (foldP l).1.length := by simp at hm; omega
  subst hm
  exact ⟨(foldP l).2, by simp, by have := fold_len l [] []; simpa [foldP] using this, by simp⟩

theorem new_one (w : World) (e : TypeId) (z : List UInt8) : (w.alloc (.cells #[.string (tx z)] e)).ownsRow w.heap.size e 1 (.slice (some ⟨w.heap.size, 0, none⟩) 1 1) 1 (Sts [z]) :=
  ⟨by simp [Sts], .inr ⟨w.heap.size, 1, _, rfl, Nat.le_refl _, heap_alloc_new w _, Nat.le_refl _, by unfold maxLen; omega, by simp, by simp [Sts]⟩⟩

set_option maxHeartbeats 3200000 in
theorem pieces_any (s : ByteArray) (w : World) (hs : s.size ≤ 1099511627776) :
    Calls Try.prog 22 #[.string s] w (NewS 9 w (pieces s.data.toList)) := by
  go_enter Try.func22, Try.ntmps22
  go_wp2
  go_loopw [3, 4] (fun v i wr => ∃ (k n c : Nat) (A : Option Addr), k ≤ s.size ∧ 0 < n ∧ n ≤ k + 1 ∧ i = .int .i64 k ∧ v = .slice A n c ∧ wr.ownsRow w.heap.size 9 1 (.slice A n c) n (Sts (pieces (s.data.toList.take k))) ∧ Below w.heap.size w wr) (fun _ i _ => s.size - (intOf i).toNat)
  case atStart => exact ⟨0, 1, 1, _, Nat.zero_le _, by omega, by omega, rfl, rfl, new_one w _ [], (Below.refl _ _).alloc (Nat.le_refl _) _⟩
  case round =>
    obtain ⟨k, n, c, A, hk, hn0, hnk, rfl, rfl, hown, hbr⟩ := hrel
    have hlen := ownS_len hown
    by_cases hlt : k < s.size
    · have hkl : k < s.data.toList.length := by simpa using hlt
      have htk : s.data.toList.take (k + 1) = s.data.toList.take k ++ [s[k]] := by
        rw [List.take_add_one, List.getElem?_eq_getElem hkl]; rfl
      by_cases h46 : s[k] = 46
      · have hsz := hbr.size
        have hb : (s[k].toNat : Int) = 46 := by rw [h46]; rfl
        rw [h46] at htk
        have hpz : pieces (s.data.toList.take (k + 1)) = pieces (s.data.toList.take k) ++ [[]] := by rw [htk, pieces_dot]
        have Hpz := Lib.hid hpz; clear hpz
        have Hlen := Lib.hid hlen; clear hlen
        have H46 := Lib.hid h46; clear h46
        clear htk
        go_wp2_with (refine wp_append_wide rfl _ _ 22 rfl 9 Try.underlying22 (.string ⟨#[]⟩) 16 (by omega) rfl Try.infoStrR w.heap.size n c A _ rfl (hown.alloc _) (wr.heap.size + 1) 1 1 _ _ rfl (Rd.new wr _ #[.string ⟨#[]⟩] rfl) (by intro u hu; simp at hu; subst hu; rfl) (by omega) (by omega) (by simp; omega) w w.heap.size (hbr.alloc hbr.size _) (Nat.le_refl _) ?_)
        intro A' c' w' hown' hb'
        have hown2 : w'.ownsRow w.heap.size 9 1 (.slice A' (n + 1) c') (n + 1) (Sts (pieces (s.data.toList.take (k + 1)))) := by rw [Hpz.out, Sts_append]; exact hown'
        clear hown'
        go_wp2
        go_roundw
        case rel => exact ⟨k + 1, n + 1, c', A', by omega, by omega, by omega, by go_num, rfl, hown2, hb'⟩
        case measure => simp [intOf]; omega
      · obtain ⟨m, rfl⟩ : ∃ m, n = m + 1 := ⟨n - 1, by omega⟩
        obtain ⟨g, rfl, hg0, hg1⟩ := own_some hown hn0
        have hb : ((s[k].toNat : Int) == 46) = false := by
          have : ¬ (s[k].toNat : Int) = 46 := fun e => h46 (UInt8.toNat_inj.1 (show s[k].toNat = 46 by omega))
          simpa using this
        obtain ⟨z, hz, hzl, hp2⟩ := pieces_byte (s.data.toList.take k) s[k] h46 m hlen
        rw [← htk] at hp2
        have hcl := hown.cellAt m (by omega)
        rw [Sts, List.getElem?_map, hz, Option.map_some] at hcl
        have hf := hown.frozenAt m
        have Hp2 := Lib.hid hp2; clear hp2
        have Hz := Lib.hid hz; clear hz
        have Hlen := Lib.hid hlen; clear hlen
        clear htk h46
        have hm0 : m < 9223372036854775807 := by omega
        have hwm : IntKind.i64.wrap (m : Int) = (m : Int) := IntWalk.i64_in _ ⟨by omega, by omega⟩
        have hwk : IntKind.i64.wrap ((k : Int) + 1) = (k : Int) + 1 := IntWalk.i64_in _ ⟨by omega, by omega⟩
        have hz1 : (tx z).size ≤ 1099511627776 := by rw [tx_size]; rw [List.length_take] at hzl; omega
        have hcat : ∀ w, (Op.stringOp .add (tx z) (s.extract k (k + 1))).run Try.prog w = .ok (.string (tx (z ++ [s[k]]))) w := fun w => by
          have e : s.extract k (k + 1) = tx [s[k]] := by
            rw [ext_tx, List.take_add_one, List.getElem?_eq_getElem hkl, List.drop_append_of_le_length (by rw [List.length_take]; omega), List.drop_eq_nil_of_le (by rw [List.length_take]; omega)]
            rfl
          rw [e]
          have e2 : tx z ++ tx [s[k]] = tx (z ++ [s[k]]) := by rw [app_tx, tx_list, tx_list]
          rw [← e2]
          exact run_string_add_sum w (tx z) (tx [s[k]]) (by rw [tx_size [s[k]]]; simp; omega)
        have hk1 : (k : Int) + 1 ≤ (s.size : Int) := by omega
        have hk2 : (k : Int) ≤ (k : Int) + 1 := by omega
        have hk3 : k + 1 ≤ s.size := by omega
        have hk0 : (0 : Int) ≤ (k : Int) + 1 := by omega
        have hm1 : (m : Int) < (m : Int) + 1 := by omega
        have hm2 : ((m + 1 : Nat) : Int) = (m : Int) + 1 := by omega
        have hm3 : m < m + 1 := by omega
        have hkn : ((k : Int) + 1).toNat = k + 1 := by omega
        go_wp2
        go_still_tail 17, (by kernel_rfl)
        go_wp2
        go_roundw
        case rel =>
          have hput := ownS_put hown m (z ++ [s[k]])
          rw [← Hp2.out] at hput
          exact ⟨k + 1, m + 1, c, _, by omega, by omega, by omega, by go_num, rfl, hput, (hbr.setCell (p := ⟨g, m, none⟩) hg0 _).drew⟩
        case measure => simp [intOf]; omega
    · obtain rfl : k = s.size := by omega
      have hall : s.data.toList.take s.size = s.data.toList := List.take_of_length_le (by simp)
      rw [hall] at hown hlen
      clear hall
      have Hlen := Lib.hid hlen; clear hlen
      go_wp2
      go_ret
      exact ⟨A, c, by rw [Hlen.out]; rfl, by rw [Hlen.out]; exact hown, hbr⟩

end Go.Proofs.Ytipkimmlbdnbnaa
