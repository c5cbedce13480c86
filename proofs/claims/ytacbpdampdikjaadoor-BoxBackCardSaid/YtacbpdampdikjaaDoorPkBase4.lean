/-
  Some of the texts that the last one of these needs: walks of the functions that the law calls, and the mathematics of their answers.
-/
import Derived.Test.YtacbpdampdikjaaDoorPkBase3
import Derived.Test.YtacbpdampdikjaaDoorPkBase2
import Derived.Test.YtacbpdampdikjaaDoorPkBase1
import Derived.Lib.ItoaNum
import Derived.Laws.CopyOwn
import Derived.Deep.MidRow
/-
  Keys derived of keys, on lists of bytes: tags one behind the other, what is expanded and derived, chains, and their laws. No program is named here.
-/
namespace Go.Proofs.YtacbpdampdikjaaDoor

/-- The n-th tag (of none: nothing). -/
def tagU (k i : List UInt8) : Nat → List UInt8
  | 0 => []
  | n + 1 => macU k (tagU k i n ++ i ++ [UInt8.ofNat (n + 1)])
/-- The first n tags, one behind the other. -/
def tagsU (k i : List UInt8) : Nat → List UInt8
  | 0 => []
  | n + 1 => tagsU k i n ++ tagU k i (n + 1)
/-- What is expanded. -/
def expU (k i : List UInt8) (size : Nat) : List UInt8 := (tagsU k i 255).take size
/-- "oubliette " -/
def aheadU : List UInt8 := [111, 117, 98, 108, 105, 101, 116, 116, 101, 32]
def infoU (l : List UInt8) : List UInt8 := [0, 32, UInt8.ofNat (aheadU ++ l).length] ++ (aheadU ++ l)
/-- The key derived by a label. -/
def deriveU (k l : List UInt8) : List UInt8 := expU k (infoU l) 32
/-- .. n times. -/
def chainU (k l : List UInt8) : Nat → List UInt8
  | 0 => k
  | n + 1 => deriveU (chainU k l n) l

/-- What Expand answers: bytes, and a fault. -/
def expR (k i : List UInt8) (z : Int) : List UInt8 := if 1 ≤ z ∧ z ≤ 8160 then expU k i z.toNat else []
def expF (z : Int) : Int := if 1 ≤ z ∧ z ≤ 8160 then 0 else 2
theorem tagU_step (k i : List UInt8) {q : Nat} (h : 1 ≤ q) : macU k (tagU k i (q - 1) ++ i ++ [UInt8.ofNat q]) = tagU k i q := by
  obtain ⟨n, rfl⟩ : ∃ n, q = n + 1 := ⟨q - 1, by omega⟩
  rfl
theorem tagsU_step (k i : List UInt8) {q : Nat} (h : 1 ≤ q) : tagsU k i (q - 1) ++ tagU k i q = tagsU k i q := by
  obtain ⟨n, rfl⟩ : ∃ n, q = n + 1 := ⟨q - 1, by omega⟩
  rfl
theorem tagU_length (k i : List UInt8) (n : Nat) : (tagU k i (n + 1)).length = 32 := macU_length _ _
theorem tagU_le (k i : List UInt8) (n : Nat) : (tagU k i n).length ≤ 32 := by
  cases n with
  | zero => exact Nat.zero_le _
  | succ n => rw [tagU_length]; exact Nat.le_refl _
theorem tagsU_length (k i : List UInt8) (n : Nat) : (tagsU k i n).length = 32 * n := by
  induction n with
  | zero => rfl
  | succ n ih => rw [tagsU, List.length_append, ih, tagU_length]; omega
theorem tagsU_more (k i : List UInt8) (n m : Nat) : ∃ r, tagsU k i (n + m) = tagsU k i n ++ r := by
  induction m with
  | zero => exact ⟨[], by rw [List.append_nil]; rfl⟩
  | succ m ih =>
    obtain ⟨r, h⟩ := ih
    exact ⟨r ++ tagU k i (n + m + 1), by rw [← Nat.add_assoc, tagsU, h, List.append_assoc]⟩
theorem expU_at (k i : List UInt8) {n size : Nat} (hn : n ≤ 255) (h : size ≤ 32 * n) : (tagsU k i n).take size = expU k i size := by
  obtain ⟨r, e⟩ := tagsU_more k i n (255 - n)
  rw [show n + (255 - n) = 255 by omega] at e
  rw [expU, e, List.take_append_of_le_length (by rw [tagsU_length]; omega)]
theorem expU_length (k i : List UInt8) {size : Nat} (h : size ≤ 8160) : (expU k i size).length = size := by
  rw [expU, List.length_take, tagsU_length]; omega
theorem expU_less (k i : List UInt8) {size more : Nat} : (expU k i (size + more)).take size = expU k i size := by
  rw [expU, List.take_take, expU]
  congr 1
  omega
theorem deriveU_length (k l : List UInt8) : (deriveU k l).length = 32 := expU_length _ _ (by decide)
theorem infoU_length (l : List UInt8) : (infoU l).length = l.length + 13 := by simp [infoU, aheadU]
theorem aheadU_length : aheadU.length = 10 := rfl
theorem chainU_le (k l : List UInt8) (n : Nat) : (chainU k l n).length ≤ k.length + 32 := by
  cases n with
  | zero => rw [chainU]; omega
  | succ n => rw [chainU, deriveU_length]; omega
theorem chainU_more (k l : List UInt8) (n m : Nat) : chainU (chainU k l n) l m = chainU k l (n + m) := by
  induction m with
  | zero => rfl
  | succ m ih => rw [chainU, ih]; rfl

end Go.Proofs.YtacbpdampdikjaaDoor

namespace Go.Proofs.YtacbpdampdikjaaDoor
open Go.RowKit

/-- The closure's two cells: the key and the info. -/
def Kept2 (bk bi : Nat) (A I : Option Addr) (n c m d : Nat) (w : World) : Prop := w.cell? ⟨bk, 0, none⟩ = some (.slice A n c) ∧ w.cell? ⟨bi, 0, none⟩ = some (.slice I m d)

set_option maxHeartbeats 1600000 in
theorem next_any (B bk bi n c m d tn tc j : Nat) (A I T : Option Addr) (ks is ts : List UInt8) (w : World) (hk : Rd w B A n (Byt ks)) (hko : SlOK A n c) (hn : n ≤ 1099511627776)
    (hi : Rd w B I m (Byt is)) (hio : SlOK I m d) (hm : m ≤ 4294967296) (ht : Rd w B T tn (Byt ts)) (hto : SlOK T tn tc) (htn : tn ≤ 4294967296) (hj : j < 9223372036854775808)
    (hc : w.cell? ⟨bk, 0, none⟩ = some (.slice A n c)) (hc2 : w.cell? ⟨bi, 0, none⟩ = some (.slice I m d)) (hbk : bk < w.heap.size) (hbi : bi < w.heap.size) (hB : B ≤ w.heap.size) (hK : KsAt w) :
    Calls Tryd.prog 50 #[.slice T tn tc, .int .i64 (j : Int), .pointer (some ⟨bk, 0, none⟩), .pointer (some ⟨bi, 0, none⟩)] w (NewB 5 w (macU ks (ts ++ is ++ [UInt8.ofNat j]))) := by
  have h1 := fun W => put_in j 1 W (by omega) (by decide) (by decide)
  have hp : putL j 1 = [UInt8.ofNat j] := rfl
  rw [hp] at h1
  have hw : IntKind.u64.wrap (j : Int) = (j : Int) := by rw [IntKind.wrap_u64]; omega
  have htl := ht.bytes
  have hil := hi.bytes
  have H1 := Lib.hid h1; clear h1 hp
  have HKEY := Lib.hid hk; clear hk
  have HI := Lib.hid hi; clear hi
  have HT := Lib.hid ht; clear ht
  have HK := Lib.hid hK; clear hK
  have HB := Lib.hid hB; clear hB
  have Htl := Lib.hid htl; clear htl
  have Hil := Lib.hid hil; clear hil
  have hcell : ∀ W, Below w.heap.size w W → (W.cell? ⟨bk, 0, none⟩ = some (.slice A n c) ∧ W.cell? ⟨bi, 0, none⟩ = some (.slice I m d)) := fun W hb =>
    ⟨(hb.cell (show bk < _ from hbk)).trans hc, (hb.cell (show bi < _ from hbi)).trans hc2⟩
  have Hcell := Lib.hid hcell; clear hcell
  have hput : ∀ W, Below w.heap.size w W → Calls Tryd.prog 33 #[.int .u64 (j : Int), .int .i64 1] W fun e w' =>
      ∃ A1 c1, e = .returned (.slice A1 1 c1) ∧ Hid (Rd w' w'.heap.size A1 1 (Byt [UInt8.ofNat j])) ∧ Hid (SlOK A1 1 c1) ∧ Hid (Below w.heap.size w w') ∧ (w'.cell? ⟨bk, 0, none⟩ = some (.slice A n c) ∧ w'.cell? ⟨bi, 0, none⟩ = some (.slice I m d)) := by
    intro W hb
    refine (H1.out W).mono ?_
    rintro e w1 ⟨A1, c1, rfl, hown1, hb1⟩
    exact ⟨A1, c1, rfl, Lib.hid (Rd.of_own hown1), Lib.hid (SlOK.of_own hown1), Lib.hid (bon hb hb1), Hcell.out _ (bon hb hb1)⟩
  have hcat : ∀ A1 c1 w1, Hid (Rd w1 w1.heap.size A1 1 (Byt [UInt8.ofNat j])) → Hid (SlOK A1 1 c1) → Hid (Below w.heap.size w w1) →
      Calls Tryd.prog 16 #[.slice (some ⟨w1.heap.size, 0, none⟩) 3 3] (w1.alloc (.cells #[.slice T tn tc, .slice I m d, .slice A1 1 c1] 22)) fun e w' =>
      ∃ A2 c2, e = .returned (.slice A2 (tn + m + 1) c2) ∧ Hid (Rd w' w'.heap.size A2 (tn + m + 1) (Byt (ts ++ is ++ [UInt8.ofNat j]))) ∧ Hid (SlOK A2 (tn + m + 1) c2) ∧ Hid (Below w.heap.size w w') ∧ (w'.cell? ⟨bk, 0, none⟩ = some (.slice A n c) ∧ w'.cell? ⟨bi, 0, none⟩ = some (.slice I m d)) := by
    intro A1 c1 w1 Hr Ho Hb
    have hb : Below w1.heap.size w1 (w1.alloc (.cells #[.slice T tn tc, .slice I m d, .slice A1 1 c1] 22)) := (Below.refl _ _).alloc (Nat.le_refl _) _
    have hb2 := bon Hb.out hb
    have hd : Rd (w1.alloc (.cells #[.slice T tn tc, .slice I m d, .slice A1 1 c1] 22)) (w1.alloc (.cells #[.slice T tn tc, .slice I m d, .slice A1 1 c1] 22)).heap.size (some ⟨w1.heap.size, 0, none⟩) 3 (Rws [⟨T, tn, tc, ts⟩, ⟨I, m, d, is⟩, ⟨A1, 1, c1, [UInt8.ofNat j]⟩]) := by
      have := Rd.new w1 22 #[.slice T tn tc, .slice I m d, .slice A1 1 c1] (n := 3) rfl
      rwa [show w1.heap.size + 1 = (w1.alloc (.cells #[.slice T tn tc, .slice I m d, .slice A1 1 c1] 22)).heap.size by simp] at this
    have hcu : catU [⟨T, tn, tc, ts⟩, ⟨I, m, d, is⟩, ⟨A1, 1, c1, [UInt8.ofNat j]⟩] = ts ++ is ++ [UInt8.ofNat j] := by simp only [catU, List.append_nil, List.append_assoc]
    have ho : RwsOK (w1.alloc (.cells #[.slice T tn tc, .slice I m d, .slice A1 1 c1] 22)) (w1.alloc (.cells #[.slice T tn tc, .slice I m d, .slice A1 1 c1] 22)).heap.size [⟨T, tn, tc, ts⟩, ⟨I, m, d, is⟩, ⟨A1, 1, c1, [UInt8.ofNat j]⟩] := by
      intro p hp
      simp only [List.mem_cons, List.not_mem_nil, or_false] at hp
      rcases hp with rfl | rfl | rfl
      · exact ⟨((HT.out.wider HB.out).below hb2).wider hb2.size, hto⟩
      · exact ⟨((HI.out.wider HB.out).below hb2).wider hb2.size, hio⟩
      · exact ⟨(Hr.out.below hb).wider hb.size, Ho.out⟩
    have hl : (ts ++ is ++ [UInt8.ofNat j]).length = tn + m + 1 := by rw [List.length_append, List.length_append, Htl.out, Hil.out]; rfl
    have h2 := concat_any _ 3 3 _ _ _ hd ho (by rw [hcu, hl]; omega) (by decide) (Nat.le_refl _)
    rw [hcu] at h2
    refine h2.mono ?_
    rintro e w2 ⟨A2, c2, rfl, hown2, hb3⟩
    rw [hl] at hown2 ⊢
    exact ⟨A2, c2, rfl, Lib.hid (Rd.of_own hown2), Lib.hid (SlOK.of_own hown2), Lib.hid (bon hb2 hb3), Hcell.out _ (bon hb2 hb3)⟩
  have hof : ∀ A2 c2 w2, Hid (Rd w2 w2.heap.size A2 (tn + m + 1) (Byt (ts ++ is ++ [UInt8.ofNat j]))) → Hid (SlOK A2 (tn + m + 1) c2) → Hid (Below w.heap.size w w2) →
      Calls Tryd.prog 17 #[.slice A n c, .slice A2 (tn + m + 1) c2] w2 fun e w' =>
      ∃ A3 c3, e = .returned (.slice A3 (macU ks (ts ++ is ++ [UInt8.ofNat j])).length c3) ∧ Hid (w'.ownsRow w.heap.size 5 1 (.slice A3 (macU ks (ts ++ is ++ [UInt8.ofNat j])).length c3) (macU ks (ts ++ is ++ [UInt8.ofNat j])).length (Byt (macU ks (ts ++ is ++ [UInt8.ofNat j])))) ∧ Hid (Below w.heap.size w w') ∧ (w'.cell? ⟨bk, 0, none⟩ = some (.slice A n c) ∧ w'.cell? ⟨bi, 0, none⟩ = some (.slice I m d)) := by
    intro A2 c2 w2 Hr Ho Hb
    refine (of_any w2.heap.size n c (tn + m + 1) c2 A A2 ks _ w2 (((HKEY.out.wider HB.out).below Hb.out).wider Hb.out.size) hko hn Hr.out Ho.out (by omega) (Nat.le_refl _) (HK.out.below Hb.out)).mono ?_
    rintro e w3 ⟨A3, c3, rfl, hown3, hb3⟩
    exact ⟨A3, c3, rfl, Lib.hid (own_base hown3 Hb.out.size), Lib.hid (bon Hb.out hb3), Hcell.out _ (bon Hb.out hb3)⟩
  generalize macU ks (ts ++ is ++ [UInt8.ofNat j]) = M at hof ⊢
  generalize ts ++ is ++ [UInt8.ofNat j] = X at hcat hof
  generalize tn + m + 1 = k at hcat hof
  clear HKEY HI HT HB
  go_enter Tryd.func50, Tryd.ntmps50
  go_wp2_with fail
  (go_region_held (fun w' => w'.cell? ⟨bk, 0, none⟩ = some (.slice A n c) ∧ w'.cell? ⟨bi, 0, none⟩ = some (.slice I m d)) (first | exact ⟨hc, hc2⟩ | exact hs1 | exact hs2 | exact hs3 | exact Hcell.out _ (bon Hb1.out ((Below.refl _ _).alloc (Nat.le_refl _) _)))
      (first
        | (go_at_call 33; refine (hput _ (by first | exact Below.refl _ _ | exact (Below.refl _ _).drew)).mono ?_; rintro e w1 ⟨A1, c1, rfl, Hr1, Ho1, Hb1, hs1⟩)
        | (go_at_call 16; refine (hcat _ _ _ Hr1 Ho1 Hb1).mono ?_; rintro e w2 ⟨A2, c2, rfl, Hr2, Ho2, Hb2, hs2⟩)
        | (go_at_call 17; refine (hof _ _ _ Hr2 Ho2 Hb2).mono ?_; rintro e w3 ⟨A3, c3, rfl, Hown3, Hb3, hs3⟩)))
  go_wp2
  go_ret
  exact ⟨A3, c3, rfl, Hown3.out, Hb3.out⟩

end Go.Proofs.YtacbpdampdikjaaDoor

/-
  What a call ends in that answers bytes which lie in new memory or not, alone or with a fault. No program is named here.
-/
namespace Go.Proofs.YtacbpdampdikjaaDoor
open Go.RowKit

/-- Bytes to be read. -/
def NewR (w : World) (l : List UInt8) (en : Ending) (w' : World) : Prop :=
  ∃ A c, en = .returned (.slice A l.length c) ∧ Rd w' w'.heap.size A l.length (Byt l) ∧ SlOK A l.length c ∧ Below w.heap.size w w'
/-- .. and a fault. -/
def NewRF (w : World) (l : List UInt8) (f : Int) (en : Ending) (w' : World) : Prop :=
  ∃ A c, en = .returned (.tuple #[.slice A l.length c, .int .i64 f]) ∧ Rd w' w'.heap.size A l.length (Byt l) ∧ SlOK A l.length c ∧ Below w.heap.size w w'
theorem NewB.newR {e : TypeId} {w w' : World} {l : List UInt8} {en : Ending} (h : NewB e w l en w') : NewR w l en w' := by
  obtain ⟨A, c, rfl, ho, hb⟩ := h
  exact ⟨A, c, rfl, Rd.of_own ho, SlOK.of_own ho, hb⟩
/-- A row that is owned stays, where another one has grown. -/
theorem own_grown {w w' : World} {base : Nat} {e : TypeId} {v : Value} {n : Nat} {xs : List Value} {row : Option Nat} (h : w.ownsRow base e 1 v n xs) (hg : w.grownBy w' row) (hne : ∀ k, v.ownBlock = some k → some k ≠ row) : w'.ownsRow base e 1 v n xs := by
  refine ⟨h.1, ?_⟩
  rcases h.2 with h' | ⟨g, cap, cur, rfl, hb, hh, hr⟩
  · exact .inl h'
  · exact .inr ⟨g, cap, cur, rfl, hb, by rw [hg.block g (Array.getElem?_eq_some_iff.1 hh).1 (hne g rfl)]; exact hh, hr⟩
/-- The first of what is read. -/
theorem Rd.front {w : World} {B n k : Nat} {A : Option Addr} {l : List UInt8} (h : Rd w B A n (Byt l)) (hk : k ≤ n) : Rd w B A k (Byt (l.take k)) := by
  have hl := h.bytes
  refine ⟨by rw [Byt_length, List.length_take]; omega, fun h0 => ?_⟩
  obtain ⟨b, o, e, hb, hc⟩ := h.2 (by omega)
  refine ⟨b, o, e, hb, fun j u hu => hc j u ?_⟩
  rw [Byt_take, List.getElem?_take] at hu
  split at hu
  · exact hu
  · cases hu

end Go.Proofs.YtacbpdampdikjaaDoor

namespace Go.Proofs.YtacbpdampdikjaaDoor
open Go.RowKit

set_option maxHeartbeats 1600000 in
theorem expand_in (B n c m d size : Nat) (A I : Option Addr) (ks is : List UInt8) (w : World) (hk : Rd w B A n (Byt ks)) (hko : SlOK A n c) (hn : n ≤ 1099511627776)
    (hi : Rd w B I m (Byt is)) (hio : SlOK I m d) (hm : m ≤ 4294967296) (h1 : 1 ≤ size) (h2 : size ≤ 8160) (hB : B ≤ w.heap.size) (hK : KsAt w) :
    Calls Tryd.prog 34 #[.slice A n c, .slice I m d, .int .i64 (size : Int)] w (NewRF w (expU ks is size) 0) := by
  have hmf : ∀ (fn : Fn) (first cap : Array Value) (w : World), (Instr.makeFunc fn first cap).run Tryd.prog w = .ok (.func fn first cap) w := fun _ _ _ _ => rfl
  have hb1 : Below w.heap.size w ((w.alloc (.cells #[.slice A n c] 22)).alloc (.cells #[.slice I m d] 22)) := ((Below.refl _ _).alloc (Nat.le_refl _) _).alloc (by simp) _
  have hc1 : ((w.alloc (.cells #[.slice A n c] 22)).alloc (.cells #[.slice I m d] 22)).cell? ⟨w.heap.size, 0, none⟩ = some (.slice A n c) :=
    (World.cell?_alloc_lt _ _ _ (by simp)).trans (cell_new1 w _ _)
  have hc2 : ((w.alloc (.cells #[.slice A n c] 22)).alloc (.cells #[.slice I m d] 22)).cell? ⟨w.heap.size + 1, 0, none⟩ = some (.slice I m d) := by
    have := cell_new1 (w.alloc (.cells #[.slice A n c] 22)) (.slice I m d) 22
    rwa [show (w.alloc (.cells #[.slice A n c] 22)).heap.size = w.heap.size + 1 by simp] at this
  have hz : ((w.alloc (.cells #[.slice A n c] 22)).alloc (.cells #[.slice I m d] 22)).heap.size = w.heap.size + 2 := by simp
  have hX : expU ks is size = (tagsU ks is 255).take size := rfl
  have hel := expU_length ks is h2
  have Hexp := Lib.hid (fun q (hq : q ≤ 255) (h : size ≤ 32 * q) => expU_at ks is hq h)
  have Hel := Lib.hid hel; clear hel hX
  generalize expU ks is size = X at Hexp Hel ⊢
  have hmax : size ≤ maxLen := by unfold maxLen; omega
  go_enter Tryd.func34, Tryd.ntmps34
  go_wp2
  go_step3
  go_wp2
  go_step3
  go_wp2
  have hbk : w.heap.size < w.heap.size + 2 := by omega
  have hbi : w.heap.size + 1 < w.heap.size + 2 := by omega
  generalize ((w.alloc (.cells #[.slice A n c] 22)).alloc (.cells #[.slice I m d] 22)) = w1 at hb1 hc1 hc2 hz ⊢
  rw [← hz] at hbk hbi
  generalize w.heap.size + 1 = bi at hc2 hbi ⊢
  have hk1 := (hk.below (hb1.mono hB)).wider (Nat.le_trans hB hb1.size)
  have hi1 := (hi.below (hb1.mono hB)).wider (Nat.le_trans hB hb1.size)
  have hK1 := hK.below hb1
  have Hb1 := Lib.hid hb1
  clear hk hi hK hb1 hz
  have hbw := Hb1.out.size
  have Hw : Hid (∀ e w', NewRF w1 X 0 e w' → NewRF w X 0 e w') := Lib.hid (by
    rintro e w' ⟨A', c', rfl, hr, ho, hb⟩
    exact ⟨A', c', rfl, hr, ho, bon Hb1.out hb⟩)
  generalize w.heap.size = bk at hc1 hbk hbw ⊢
  have hnext := fun (q : Nat) (T : Option Addr) (tn tc : Nat) (W : World) (hb : Below w1.heap.size w1 W) (hq : 1 ≤ q) (hq2 : q ≤ 255) (ht : Rd W W.heap.size T tn (Byt (tagU ks is (q - 1)))) (hto : SlOK T tn tc) =>
    next_any W.heap.size bk bi n c m d tn tc q A I T ks is _ W ((hk1.below hb).wider hb.size) hko hn ((hi1.below hb).wider hb.size) hio hm ht hto (by have := ht.bytes; have := tagU_le ks is (q - 1); omega) (by omega)
      ((hb.cell (show bk < _ from hbk)).trans hc1) ((hb.cell (show bi < _ from hbi)).trans hc2) (Nat.lt_of_lt_of_le hbk hb.size) (Nat.lt_of_lt_of_le hbi hb.size) (Nat.le_refl _) (hK1.below hb)
  have Hnext : Hid (∀ (q : Nat) (T : Option Addr) (tn tc : Nat) (W : World), Below w1.heap.size w1 W → 1 ≤ q → q ≤ 255 → Rd W W.heap.size T tn (Byt (tagU ks is (q - 1))) → SlOK T tn tc →
      Calls Tryd.prog 50 #[.slice T tn tc, .int .i64 (q : Int), .pointer (some ⟨bk, 0, none⟩), .pointer (some ⟨bi, 0, none⟩)] W
        fun e w' => ∃ A1 c1, e = .returned (.slice A1 32 c1) ∧ Hid (w'.ownsRow W.heap.size 5 1 (.slice A1 32 c1) 32 (Byt (tagU ks is q))) ∧ Hid (Below W.heap.size W w')) := Lib.hid (by
    intro q T tn tc W hb hq hq2 ht hto
    refine (hnext q T tn tc W hb hq hq2 ht hto).mono ?_
    rw [tagU_step ks is hq]
    have hl : (tagU ks is q).length = 32 := by
      obtain ⟨k, rfl⟩ : ∃ k, q = k + 1 := ⟨q - 1, by omega⟩
      exact tagU_length _ _ _
    generalize tagU ks is q = L at hl
    rintro e w2 ⟨A1, c1, rfl, hown, hb2⟩
    rw [hl] at hown
    exact ⟨A1, c1, by rw [hl], Lib.hid hown, Lib.hid hb2⟩)
  have Hlen := Lib.hid (tagsU_length ks is)
  have Hstep := Lib.hid (fun q (hq : 1 ≤ q) => tagsU_step ks is hq)
  clear hnext hk1 hi1 hc1 hc2 hK1 hko hio hbw hbk hbi
  go_loopw [9, 10, 11] (fun v t i wr => ∃ (q mm c' tn tc : Nat) (A' T : Option Addr), 1 ≤ q ∧ q ≤ 255 ∧ mm + 32 = 32 * q ∧ mm < size ∧ i = .int .i64 (q : Int) ∧ v = .slice A' mm c' ∧ t = .slice T tn tc ∧
      Hid (wr.ownsRow w1.heap.size 5 1 (.slice A' mm c') mm (Byt (tagsU ks is (q - 1)))) ∧ Hid (Rd wr wr.heap.size T tn (Byt (tagU ks is (q - 1)))) ∧ Hid (SlOK T tn tc) ∧ Hid (Below w1.heap.size w1 wr)) (fun _ _ i _ => 256 - (intOf i).toNat)
  case atStart => exact ⟨1, 0, 0, 0, 0, none, none, by omega, by omega, by omega, by omega, rfl, rfl, rfl, Lib.hid (World.ownsRow_nil _ _ _ _), Lib.hid Rd.nil, Lib.hid SlOK.nil, Lib.hid (Below.refl _ _)⟩
  case round =>
    obtain ⟨q, mm, c', tn, tc, A', T, hq1, hq2, hmm, hlt, rfl, rfl, rfl, Hown, Ht, Hto, Hb⟩ := hrel
    have Hmm := Lib.hid hmm; clear hmm
    have hc := Hnext.out q T tn tc wr Hb.out hq1 hq2 Ht.out Hto.out
    go_wp2_with fail
    refine hc.mono ?_
    rintro e w2 ⟨A1, c1, rfl, Hr1, Hb2⟩
    have Hown2 : Hid (w2.ownsRow w1.heap.size 5 1 (.slice A' mm c') mm (Byt (tagsU ks is (q - 1)))) := Lib.hid (own_below Hown.out Hb2.out (Nat.le_refl _))
    have Hb3 := Lib.hid (bon Hb.out Hb2.out)
    have hsz := Hb3.out.size
    clear hc
    go_wp2_with (refine wp_append_foot rfl _ _ 22 rfl 5 Tryd.underlying22 (.int .u8 0) 1 (by omega) rfl Tryd.info_u8 w1.heap.size mm c' A' _ rfl Hown2.out w2.heap.size 32 c1 A1 _ rfl (Rd.of_own Hr1.out) (SlOK.of_own Hr1.out) (Byt_one _) (by omega) hsz ?_)
    intro A3 c3 w3 hown3 hg3 hat3
    have Hb4 : Hid (Below w1.heap.size w1 w3) := Lib.hid (Hb3.out.grown hg3 hsz (fun k hk => (Hown2.out.lt k hk).1))
    rw [← Byt_append, Hstep.out q hq1] at hown3
    have Ho3 : Hid (w3.ownsRow wr.heap.size 5 1 (.slice A1 32 c1) 32 (Byt (tagU ks is q))) := Lib.hid (own_grown Hr1.out hg3 (fun k hk hk2 => by
      have h1 := (Hr1.out.lt k hk).1
      have h2 := (Hown.out.lt k hk2.symm).2
      omega))
    obtain ⟨g, rfl, -, -⟩ := own_some hown3 (by omega)
    have hcap : mm + 32 ≤ c3 ∧ c3 ≤ maxLen := (SlOK.of_own hown3).le
    have hcap2 : c3 ≤ 9223372036854775807 := by unfold maxLen at hcap; omega
    have hrf := fun h => Rd.front (Rd.of_own hown3) (k := size) h
    have Hrf := Lib.hid hrf; clear hrf
    have Hown3 := Lib.hid hown3; clear hown3 hat3
    clear hg3
    by_cases hend : size ≤ mm + 32
    · have hx := Hexp.out q hq2 (by have := Hmm.out; omega)
      have hr := Hrf.out hend
      rw [hx] at hr
      have Hfin : Hid (NewRF w X 0 (.returned (.tuple #[.slice (some ⟨g, 0, none⟩) size size, .int .i64 0])) w3) := Lib.hid (Hw.out _ _ ⟨_, size, by rw [Hel.out], by rw [Hel.out]; exact hr, .inr ⟨_, rfl, by rw [Hel.out]; exact Nat.le_refl _, by unfold maxLen; omega⟩, Hb4.out⟩)
      have hsc : size ≤ c3 := by omega
      clear hx hr
      go_wp2
      go_ret2
      exact Hfin.out
    · go_wp2
      go_roundw
      case rel => exact ⟨q + 1, mm + 32, c3, 32, c1, _, A1, by omega, by have := Hmm.out; omega, by have := Hmm.out; omega, by omega, by go_num, rfl, rfl, Hown3, Lib.hid (Rd.of_own Ho3.out), Lib.hid (SlOK.of_own Ho3.out), Hb4⟩
      case measure => simp [intOf]; omega

end Go.Proofs.YtacbpdampdikjaaDoor

/-
  '[]byte(s)': a new row that reads as the text's bytes. No program is named here.
-/
namespace Go.Proofs.YtacbpdampdikjaaDoor
open Go.RowKit

theorem conv_bytes (P : Program) (w : World) (src dst e : TypeId) (s : ByteArray) (hs : P.underlying src = some .string) (hd : P.underlying dst = some (.slice e)) (he : P.underlying e = some (.int .u8)) (hm : s.size ≤ maxLen) :
    ∃ c o, (convert src dst (.string s)).run P w = .ok (.slice (some ⟨w.heap.size, 0, none⟩) s.size c) (w.drew.alloc o) ∧ Rd (w.drew.alloc o) (w.heap.size + 1) (some ⟨w.heap.size, 0, none⟩) s.size (Byt s.data.toList) ∧
      SlOK (some ⟨w.heap.size, 0, none⟩) s.size c := by
  refine ⟨_, _, run_bytes_of_string w src dst e s hs hd he, ⟨by rw [Byt_length]; simp, fun _ => ⟨w.heap.size, 0, rfl, by omega, fun j u hj => ?_⟩⟩, .inr ⟨_, rfl, grownCap_ge _ _ _ _, grownCap_le_maxLen _ _ _ _ hm⟩⟩
  have hg := heap_alloc_new w.drew (.cells (bytesRow s (grownCap w s.size 0 e)) e ((bytesRow s (grownCap w s.size 0 e)).size, (bytesRow s (grownCap w s.size 0 e)).size + 1))
  rw [Nat.zero_add, cell_of_row (w.drew.alloc _) w.heap.size j _ e _ hg]
  have hjs : j < s.data.toList.length := by
    have := (List.getElem?_eq_some_iff.1 hj).1
    rwa [Byt_length] at this
  rw [Byt_get hjs] at hj
  rw [← hj]
  rw [bytesRow_at s _ j (by simpa using hjs)]
  rfl

end Go.Proofs.YtacbpdampdikjaaDoor

namespace Go.Proofs.YtacbpdampdikjaaDoor
open Go.RowKit

/-- slices.Concat(a, b, c): the literal row of three parts is made, and the call follows. -/
theorem concat3_any (n1 c1 n2 c2 n3 c3 : Nat) (A1 A2 A3 : Option Addr) (l1 l2 l3 : List UInt8) (w : World) (h1 : Rd w w.heap.size A1 n1 (Byt l1)) (h2 : Rd w w.heap.size A2 n2 (Byt l2)) (h3 : Rd w w.heap.size A3 n3 (Byt l3))
    (o1 : SlOK A1 n1 c1) (o2 : SlOK A2 n2 c2) (o3 : SlOK A3 n3 c3) (hn : n1 + n2 + n3 ≤ 1099511627776) :
    Calls Tryd.prog 16 #[.slice (some ⟨w.heap.size, 0, none⟩) 3 3] (w.alloc (.cells #[.slice A1 n1 c1, .slice A2 n2 c2, .slice A3 n3 c3] 22)) fun e w' =>
      ∃ A c, e = .returned (.slice A (n1 + n2 + n3) c) ∧ w'.ownsRow w.heap.size 5 1 (.slice A (n1 + n2 + n3) c) (n1 + n2 + n3) (Byt (l1 ++ l2 ++ l3)) ∧ Below w.heap.size w w' := by
  have hb : Below w.heap.size w (w.alloc (.cells #[.slice A1 n1 c1, .slice A2 n2 c2, .slice A3 n3 c3] 22)) := (Below.refl _ _).alloc (Nat.le_refl _) _
  have hd : Rd (w.alloc (.cells #[.slice A1 n1 c1, .slice A2 n2 c2, .slice A3 n3 c3] 22)) (w.alloc (.cells #[.slice A1 n1 c1, .slice A2 n2 c2, .slice A3 n3 c3] 22)).heap.size (some ⟨w.heap.size, 0, none⟩) 3 (Rws [⟨A1, n1, c1, l1⟩, ⟨A2, n2, c2, l2⟩, ⟨A3, n3, c3, l3⟩]) := by
    have := Rd.new w 22 #[.slice A1 n1 c1, .slice A2 n2 c2, .slice A3 n3 c3] (n := 3) rfl
    rwa [show w.heap.size + 1 = (w.alloc (.cells #[.slice A1 n1 c1, .slice A2 n2 c2, .slice A3 n3 c3] 22)).heap.size by simp] at this
  have hcu : catU [⟨A1, n1, c1, l1⟩, ⟨A2, n2, c2, l2⟩, ⟨A3, n3, c3, l3⟩] = l1 ++ l2 ++ l3 := by simp only [catU, List.append_nil, List.append_assoc]
  have ho : RwsOK (w.alloc (.cells #[.slice A1 n1 c1, .slice A2 n2 c2, .slice A3 n3 c3] 22)) (w.alloc (.cells #[.slice A1 n1 c1, .slice A2 n2 c2, .slice A3 n3 c3] 22)).heap.size [⟨A1, n1, c1, l1⟩, ⟨A2, n2, c2, l2⟩, ⟨A3, n3, c3, l3⟩] := by
    intro p hp
    simp only [List.mem_cons, List.not_mem_nil, or_false] at hp
    rcases hp with rfl | rfl | rfl
    · exact ⟨(h1.below hb).wider hb.size, o1⟩
    · exact ⟨(h2.below hb).wider hb.size, o2⟩
    · exact ⟨(h3.below hb).wider hb.size, o3⟩
  have hl : (l1 ++ l2 ++ l3).length = n1 + n2 + n3 := by rw [List.length_append, List.length_append, h1.bytes, h2.bytes, h3.bytes]
  have h := concat_any _ 3 3 _ _ _ hd ho (by rw [hcu, hl]; omega) (by decide) (Nat.le_refl _)
  rw [hcu] at h
  refine h.mono ?_
  rintro e w2 ⟨A, c, rfl, hown, hb3⟩
  rw [hl] at hown ⊢
  exact ⟨A, c, rfl, own_base hown hb.size, bon hb hb3⟩

end Go.Proofs.YtacbpdampdikjaaDoor

namespace Go.Proofs.YtacbpdampdikjaaDoor
open Go.RowKit

/-- The label behind what keeps it apart, as a text. -/
theorem ahead_add (P : Program) (w : World) (s : ByteArray) (hs : s.size ≤ 1099511627776) : ∃ T : ByteArray, (Op.stringOp .add (⟨#[111, 117, 98, 108, 105, 101, 116, 116, 101, 32]⟩ : ByteArray) s).run P w = .ok (.string T) w ∧ T.size = s.size + 10 ∧ T.data.toList = aheadU ++ s.data.toList := by
  refine ⟨⟨#[111, 117, 98, 108, 105, 101, 116, 116, 101, 32]⟩ ++ s, run_string_add_sum _ _ _ ?_, ?_, ?_⟩
  · rw [show (⟨#[111, 117, 98, 108, 105, 101, 116, 116, 101, 32]⟩ : ByteArray).size = 10 from rfl]; omega
  · rw [ByteArray.size_append, show (⟨#[111, 117, 98, 108, 105, 101, 116, 116, 101, 32]⟩ : ByteArray).size = 10 from rfl]; omega
  · rw [ByteArray.data_append, Array.toList_append]; rfl

theorem putL_32 : putL 32 2 = [0, 32] := by decide

set_option maxHeartbeats 1600000 in
theorem derive_any (B n c : Nat) (A : Option Addr) (ks : List UInt8) (s : ByteArray) (w : World) (hk : Rd w B A n (Byt ks)) (hko : SlOK A n c) (hn : n ≤ 1099511627776) (hs : s.size ≤ 1073741824) (hB : B ≤ w.heap.size) (hK : KsAt w) :
    Calls Tryd.prog 22 #[.slice A n c, .string s] w (NewR w (deriveU ks s.data.toList)) := by
  obtain ⟨T, hadd, hTs, hTl⟩ := ahead_add Tryd.prog w s (by omega)
  obtain ⟨c0, o, hcv, hrT, hoT⟩ := conv_bytes Tryd.prog w 9 22 5 T Tryd.underlying9 Tryd.underlying22 Tryd.underlying5 (by unfold maxLen; omega)
  have hb1 : Below w.heap.size w (w.drew.alloc o) := ((Below.refl w.heap.size w).drew).alloc (Nat.le_refl _) _
  have hz1 : w.heap.size + 1 = (w.drew.alloc o).heap.size := by simp
  rw [hz1, hTl] at hrT
  have h1 := fun W => put_in 32 2 W (by decide) (by decide) (by decide)
  have h2 := fun W => put_in T.size 1 W (by omega) (by decide) (by decide)
  rw [putL_32] at h1
  rw [show putL T.size 1 = [UInt8.ofNat T.size] from rfl] at h2
  have hw : IntKind.u64.wrap (T.size : Int) = (T.size : Int) := by rw [IntKind.wrap_u64]; omega
  have hinfo : infoU s.data.toList = [0, 32] ++ [UInt8.ofNat T.size] ++ (aheadU ++ s.data.toList) := by
    rw [infoU, List.length_append, aheadU_length, str_len, show 10 + s.size = T.size by omega]; rfl
  have hil := infoU_length s.data.toList
  rw [str_len] at hil
  have hD : deriveU ks s.data.toList = expU ks (infoU s.data.toList) 32 := rfl
  rw [hD]
  generalize infoU s.data.toList = I at hinfo hil ⊢
  generalize aheadU ++ s.data.toList = TL at hrT hinfo
  have Hexp : Hid (∀ nx cx Ax W, Below w.heap.size w W → nx = s.size + 13 → Rd W W.heap.size Ax nx (Byt I) → SlOK Ax nx cx → Calls Tryd.prog 34 #[.slice A n c, .slice Ax nx cx, .int .i64 ((32 : Nat) : Int)] W (NewRF W (expU ks I 32) 0)) := Lib.hid (fun nx cx Ax W hb hnx hx hxo =>
    expand_in W.heap.size n c nx cx 32 A Ax ks I W ((hk.below (hb.mono hB)).wider (Nat.le_trans hB hb.size)) hko hn hx hxo (by omega) (by decide) (by decide) (Nat.le_refl _) (hK.below hb))
  have Hel : Hid ((expU ks I 32).length = 32) := Lib.hid (expU_length _ _ (by decide))
  generalize expU ks I 32 = X at Hexp Hel ⊢
  have HrT := Lib.hid hrT; clear hrT
  have HoT := Lib.hid hoT; clear hoT
  have Hb1 := Lib.hid hb1; clear hb1
  have Hinfo := Lib.hid hinfo; clear hinfo
  have Hil := Lib.hid hil; clear hil
  have htz : T.size ≤ 9223372036854775807 := by omega
  have HTs := Lib.hid hTs
  clear hk hK hTl hz1 hD hTs
  generalize T.size = tz at hcv HrT HoT h2 hw htz Hinfo HTs
  generalize w.drew.alloc o = w1 at hcv HrT Hb1
  generalize w.heap.size = b0 at hcv HrT HoT
  go_enter Tryd.func22, Tryd.ntmps22
  go_wp2_with fail
  refine (h1 _).mono ?_
  rintro e w2 ⟨A2, c2, rfl, hown2, hb2⟩
  have Hb2 := Lib.hid (bon Hb1.out hb2)
  have Hr2 := Lib.hid (Rd.of_own hown2)
  have Ho2 := Lib.hid (SlOK.of_own hown2)
  have HrT2 := Lib.hid ((HrT.out.below hb2).wider hb2.size)
  clear hown2 hb2 HrT h1
  go_wp2_with fail
  refine (h2 _).mono ?_
  rintro e w3 ⟨A3, c3, rfl, hown3, hb3⟩
  have Hb3 := Lib.hid (bon Hb2.out hb3)
  have Hr3 := Lib.hid (Rd.of_own hown3)
  have Ho3 := Lib.hid (SlOK.of_own hown3)
  have Hr23 := Lib.hid ((Hr2.out.below hb3).wider hb3.size)
  have HrT3 := Lib.hid ((HrT2.out.below hb3).wider hb3.size)
  clear hown3 hb3 Hr2 HrT2 h2
  have h4 := concat3_any 2 c2 1 c3 tz c0 A2 A3 (some ⟨b0, 0, none⟩) _ _ _ w3 Hr23.out Hr3.out HrT3.out Ho2.out Ho3.out HoT.out (by have := HTs.out; omega)
  rw [← Hinfo.out] at h4
  have Hn : Hid (2 + 1 + tz = s.size + 13) := Lib.hid (by have := HTs.out; omega)
  generalize 2 + 1 + tz = nx at h4 Hn
  go_wp2_with fail
  refine h4.mono ?_
  rintro e w5 ⟨A5, c5, rfl, hown5, hb5⟩
  have Hb5 := Lib.hid (bon Hb3.out hb5)
  have h6 := Hexp.out nx c5 A5 w5 Hb5.out Hn.out (Rd.of_own hown5) (SlOK.of_own hown5)
  clear hown5 hb5 h4
  go_wp2_with fail
  refine h6.mono ?_
  rintro e w6 ⟨A6, c6, rfl, hr6, ho6, hb6⟩
  have Hb6 := Lib.hid (bon Hb5.out hb6)
  have Hr6 := Lib.hid hr6
  have Ho6 := Lib.hid ho6
  clear hr6 ho6 hb6 h6
  go_wp2
  go_ret
  exact ⟨A6, c6, rfl, Hr6.out, Ho6.out, Hb6.out⟩

end Go.Proofs.YtacbpdampdikjaaDoor

/-
  The field of 256 numbers: plain mathematics. No program is named here.
-/
namespace Go.Proofs.YtacbpdampdikjaaDoor
open Go.RowKit

/-- Twice. -/
def gtwiceU (a : UInt8) : UInt8 := if 128 ≤ a.toNat then (a + a) ^^^ 27 else a + a
/-- The product, bit by bit: k bits are left of a, b has been doubled, s is the sum till now. -/
def gloopU : Nat → UInt8 → UInt8 → UInt8 → UInt8
  | 0, _, _, s => s
  | k + 1, a, b, s => gloopU k (a / 2) (gtwiceU b) (if a.toNat % 2 = 1 then s ^^^ b else s)
def gmulU (a b : UInt8) : UInt8 := gloopU 8 a b 0

/-- All bytes, one by one. -/
theorem all_bytes {p : UInt8 → Prop} [∀ a, Decidable (p a)] (h : ((List.range 256).all fun n => decide (p (UInt8.ofNat n))) = true) : ∀ a : UInt8, p a := by
  intro a
  have h1 := List.all_eq_true.1 h a.toNat (List.mem_range.2 a.toNat_lt)
  have h2 := of_decide_eq_true h1
  rwa [UInt8.ofNat_toNat] at h2

def gbit (x : UInt8) (i : Nat) (v : UInt8) : UInt8 := if x.toNat.testBit i then v else 0
/-- The sum of those of v whose bit is set in x. -/
def gcomb (v : Nat → UInt8) (x : UInt8) : UInt8 := gbit x 0 (v 0) ^^^ gbit x 1 (v 1) ^^^ gbit x 2 (v 2) ^^^ gbit x 3 (v 3) ^^^ gbit x 4 (v 4) ^^^ gbit x 5 (v 5) ^^^ gbit x 6 (v 6) ^^^ gbit x 7 (v 7)
theorem gbit_xor (x y : UInt8) (i : Nat) (v : UInt8) : gbit (x ^^^ y) i v = gbit x i v ^^^ gbit y i v := by
  unfold gbit
  rw [UInt8.toNat_xor, Nat.testBit_xor]
  cases x.toNat.testBit i <;> cases y.toNat.testBit i <;> simp
theorem x4 (a b c d : UInt8) : (a ^^^ b) ^^^ (c ^^^ d) = (a ^^^ c) ^^^ (b ^^^ d) := by
  rw [UInt8.xor_assoc, UInt8.xor_assoc, ← UInt8.xor_assoc b, UInt8.xor_comm b c, UInt8.xor_assoc]
theorem gcomb_xor (v : Nat → UInt8) (x y : UInt8) : gcomb v (x ^^^ y) = gcomb v x ^^^ gcomb v y := by
  unfold gcomb
  simp only [gbit_xor]
  simp only [x4]

/-- A function that goes over sums. -/
def Adds (f : UInt8 → UInt8) : Prop := ∀ x y, f (x ^^^ y) = f x ^^^ f y
theorem Adds.zero {f : UInt8 → UInt8} (h : Adds f) : f 0 = 0 := by
  have := h 0 0
  rw [UInt8.xor_self] at this
  rw [UInt8.xor_self] at this
  exact this
def gbase (i : Nat) : UInt8 := UInt8.ofNat (2 ^ i)
theorem gbase_comb : ∀ x : UInt8, gcomb gbase x = x := all_bytes (by decide +kernel)
theorem Adds.gbit {f : UInt8 → UInt8} (h : Adds f) (x : UInt8) (i : Nat) (v : UInt8) : f (gbit x i v) = Proofs.YtacbpdampdikjaaDoor.gbit x i (f v) := by
  unfold Proofs.YtacbpdampdikjaaDoor.gbit
  split
  · rfl
  · exact h.zero
theorem Adds.comb {f : UInt8 → UInt8} (h : Adds f) (x : UInt8) : f x = gcomb (fun i => f (gbase i)) x := by
  rw [← gbase_comb x]
  conv => lhs; unfold gcomb
  simp only [h _ _, h.gbit]
  rw [gbase_comb x]
  rfl
/-- Two that go over sums are one where they agree at the eight bits. -/
theorem Adds.ext {f g : UInt8 → UInt8} (hf : Adds f) (hg : Adds g) (h : ∀ i, i < 8 → f (gbase i) = g (gbase i)) (x : UInt8) : f x = g x := by
  rw [hf.comb, hg.comb]
  unfold gcomb
  dsimp only
  rw [h 0 (by decide), h 1 (by decide), h 2 (by decide), h 3 (by decide), h 4 (by decide), h 5 (by decide), h 6 (by decide), h 7 (by decide)]

theorem gtwice_comb : ∀ x : UInt8, gtwiceU x = gcomb (fun i => gtwiceU (gbase i)) x := all_bytes (by decide +kernel)
theorem gtwice_adds : Adds gtwiceU := fun x y => by rw [gtwice_comb, gtwice_comb x, gtwice_comb y, gcomb_xor]
theorem gloop_adds (k : Nat) : ∀ (a b c s t : UInt8), gloopU k a (b ^^^ c) (s ^^^ t) = gloopU k a b s ^^^ gloopU k a c t := by
  induction k with
  | zero => intro a b c s t; rfl
  | succ k ih =>
    intro a b c s t
    unfold gloopU
    rw [gtwice_adds b c]
    split
    · rw [x4, ih]
    · rw [ih]
/-- The product goes over sums of the second one. -/
theorem gmul_adds (a : UInt8) : Adds (gmulU a) := fun b c => by
  unfold gmulU
  rw [← gloop_adds, UInt8.xor_self]

theorem half_xor (a b : UInt8) : (a ^^^ b) / 2 = a / 2 ^^^ b / 2 := by
  apply UInt8.toNat_inj.1
  rw [UInt8.toNat_div, UInt8.toNat_xor, UInt8.toNat_xor, UInt8.toNat_div, UInt8.toNat_div]
  show (a.toNat ^^^ b.toNat) / 2 = a.toNat / 2 ^^^ b.toNat / 2
  apply Nat.eq_of_testBit_eq
  intro i
  rw [Nat.testBit_xor, Nat.testBit_div_two, Nat.testBit_div_two, Nat.testBit_div_two, Nat.testBit_xor]
theorem odd_xor (a b : UInt8) : decide ((a ^^^ b).toNat % 2 = 1) = (decide (a.toNat % 2 = 1) ^^ decide (b.toNat % 2 = 1)) := by
  rw [UInt8.toNat_xor, ← Nat.testBit_zero, Nat.testBit_xor, Nat.testBit_zero, Nat.testBit_zero]
theorem gloop_left (k : Nat) : ∀ (a a' b s t : UInt8), gloopU k (a ^^^ a') b (s ^^^ t) = gloopU k a b s ^^^ gloopU k a' b t := by
  induction k with
  | zero => intro a a' b s t; rfl
  | succ k ih =>
    intro a a' b s t
    unfold gloopU
    rw [half_xor]
    have h := odd_xor a a'
    by_cases h1 : a.toNat % 2 = 1 <;> by_cases h2 : a'.toNat % 2 = 1
    · rw [decide_eq_true h1, decide_eq_true h2] at h
      have h3 : ¬ (a ^^^ a').toNat % 2 = 1 := of_decide_eq_false h
      rw [if_neg h3, if_pos h1, if_pos h2, ← ih, x4, UInt8.xor_self, UInt8.xor_zero]
    · rw [decide_eq_true h1, decide_eq_false h2] at h
      have h3 : (a ^^^ a').toNat % 2 = 1 := of_decide_eq_true h
      rw [if_pos h3, if_pos h1, if_neg h2, ← ih, UInt8.xor_assoc, UInt8.xor_comm t b, ← UInt8.xor_assoc]
    · rw [decide_eq_false h1, decide_eq_true h2] at h
      have h3 : (a ^^^ a').toNat % 2 = 1 := of_decide_eq_true h
      rw [if_pos h3, if_neg h1, if_pos h2, ← ih, UInt8.xor_assoc]
    · rw [decide_eq_false h1, decide_eq_false h2] at h
      have h3 : ¬ (a ^^^ a').toNat % 2 = 1 := of_decide_eq_false h
      rw [if_neg h3, if_neg h1, if_neg h2, ← ih]
/-- .. and of the first one. -/
theorem gmul_left (b : UInt8) : Adds fun a => gmulU a b := fun a a' => by
  show gloopU 8 (a ^^^ a') b 0 = gloopU 8 a b 0 ^^^ gloopU 8 a' b 0
  rw [← gloop_left, UInt8.xor_self]

theorem gmul_base : ((List.range 8).all fun i => (List.range 8).all fun j => decide (gmulU (gbase i) (gbase j) = gmulU (gbase j) (gbase i))) = true := by decide +kernel
theorem gmul_base3 : ((List.range 8).all fun i => (List.range 8).all fun j => (List.range 8).all fun k => decide (gmulU (gbase i) (gmulU (gbase j) (gbase k)) = gmulU (gmulU (gbase i) (gbase j)) (gbase k))) = true := by decide +kernel
/-- Products do not hang on the order. -/
theorem gmul_comm (a b : UInt8) : gmulU a b = gmulU b a := by
  refine Adds.ext (gmul_left b) (gmul_adds b) (fun i hi => ?_) a
  refine Adds.ext (f := gmulU (gbase i)) (g := fun b => gmulU b (gbase i)) (gmul_adds _) (gmul_left _) (fun j hj => ?_) b
  exact of_decide_eq_true (List.all_eq_true.1 (List.all_eq_true.1 gmul_base i (List.mem_range.2 hi)) j (List.mem_range.2 hj))
theorem Adds.then {f g : UInt8 → UInt8} (hf : Adds f) (hg : Adds g) : Adds fun x => g (f x) := fun x y => by
  show g (f (x ^^^ y)) = g (f x) ^^^ g (f y)
  rw [hf, hg]
section
attribute [local irreducible] gmulU
theorem gmul_assoc (a b c : UInt8) : gmulU a (gmulU b c) = gmulU (gmulU a b) c := by
  have l1 : Adds fun a => gmulU a (gmulU b c) := gmul_left _
  have r1 : Adds fun a => gmulU (gmulU a b) c := Adds.then (f := fun a => gmulU a b) (g := fun a => gmulU a c) (gmul_left b) (gmul_left c)
  refine Adds.ext l1 r1 (fun i hi => ?_) a
  have l2 : Adds fun b => gmulU (gbase i) (gmulU b c) := Adds.then (f := fun b => gmulU b c) (g := gmulU (gbase i)) (gmul_left c) (gmul_adds _)
  have r2 : Adds fun b => gmulU (gmulU (gbase i) b) c := Adds.then (f := gmulU (gbase i)) (g := fun a => gmulU a c) (gmul_adds _) (gmul_left c)
  refine Adds.ext l2 r2 (fun j hj => ?_) b
  have l3 : Adds fun c => gmulU (gbase i) (gmulU (gbase j) c) := Adds.then (f := gmulU (gbase j)) (g := gmulU (gbase i)) (gmul_adds _) (gmul_adds _)
  have r3 : Adds fun c => gmulU (gmulU (gbase i) (gbase j)) c := gmul_adds _
  refine Adds.ext l3 r3 (fun k hk => ?_) c
  exact of_decide_eq_true (List.all_eq_true.1 (List.all_eq_true.1 (List.all_eq_true.1 gmul_base3 i (List.mem_range.2 hi)) j (List.mem_range.2 hj)) k (List.mem_range.2 hk))
end
theorem gmul_one : ∀ a : UInt8, gmulU a 1 = a := all_bytes (by decide +kernel)

/-- The inverse, by search: the first one of those from n on whose product is 1. -/
def gseekU (a : UInt8) : Nat → Nat → UInt8
  | 0, _ => 0
  | k + 1, n => if gmulU a (UInt8.ofNat n) = 1 then UInt8.ofNat n else gseekU a k (n + 1)
def ginvU (a : UInt8) : UInt8 := gseekU a 256 0
/-- The inverses, as they are found. -/
def ginvTab : List Nat := [0, 1, 141, 246, 203, 82, 123, 209, 232, 79, 41, 192, 176, 225, 229, 199, 116, 180, 170, 75, 153, 43, 96, 95, 88, 63, 253, 204, 255, 64, 238, 178, 58, 110, 90, 241, 85, 77, 168, 201, 193, 10, 152, 21, 48, 68, 162, 194, 44, 69, 146, 108, 243, 57, 102, 66, 242, 53, 32, 111, 119, 187, 89, 25, 29, 254, 55, 103, 45, 49, 245, 105, 167, 100, 171, 19, 84, 37, 233, 9, 237, 92, 5, 202, 76, 36, 135, 191, 24, 62, 34, 240, 81, 236, 97, 23, 22, 94, 175, 211, 73, 166, 54, 67, 244, 71, 145, 223, 51, 147, 33, 59, 121, 183, 151, 133, 16, 181, 186, 60, 182, 112, 208, 6, 161, 250, 129, 130, 131, 126, 127, 128, 150, 115, 190, 86, 155, 158, 149, 217, 247, 2, 185, 164, 222, 106, 50, 109, 216, 138, 132, 114, 42, 20, 159, 136, 249, 220, 137, 154, 251, 124, 46, 195, 143, 184, 101, 72, 38, 200, 18, 74, 206, 231, 210, 98, 12, 224, 31, 239, 17, 117, 120, 113, 165, 142, 118, 61, 189, 188, 134, 87, 11, 40, 47, 163, 218, 212, 228, 15, 169, 39, 83, 4, 27, 252, 172, 230, 122, 7, 174, 99, 197, 219, 226, 234, 148, 139, 196, 213, 157, 248, 144, 107, 177, 13, 214, 235, 198, 14, 207, 173, 8, 78, 215, 227, 93, 80, 30, 179, 91, 35, 56, 52, 104, 70, 3, 140, 221, 156, 125, 160, 205, 26, 65, 28]
def gtabU (a : UInt8) : UInt8 := UInt8.ofNat (ginvTab.getD a.toNat 0)
theorem gtab_mul : ∀ a : UInt8, a ≠ 0 → gmulU a (gtabU a) = 1 := all_bytes (by decide +kernel)
theorem gseek_some (a : UInt8) (m : Nat) (hm : gmulU a (UInt8.ofNat m) = 1) : ∀ k n, n ≤ m → m < n + k → gmulU a (gseekU a k n) = 1 := by
  intro k
  induction k with
  | zero => intro n h1 h2; omega
  | succ k ih =>
    intro n h1 h2
    unfold gseekU
    split
    · rename_i h; exact h
    · rename_i h
      refine ih (n + 1) ?_ (by omega)
      rcases Nat.lt_or_ge n m with h3 | h3
      · exact h3
      · obtain rfl : n = m := by omega
        exact absurd hm h
theorem gseek_none (a : UInt8) (h : ∀ n, gmulU a n ≠ 1) : ∀ k n, gseekU a k n = 0 := by
  intro k
  induction k with
  | zero => intro n; rfl
  | succ k ih => intro n; unfold gseekU; rw [if_neg (h _), ih]
theorem ginv_mul (a : UInt8) (h : a ≠ 0) : gmulU a (ginvU a) = 1 :=
  gseek_some a (gtabU a).toNat (by rw [UInt8.ofNat_toNat]; exact gtab_mul a h) 256 0 (Nat.zero_le _) (by have := (gtabU a).toNat_lt; omega)
theorem ginv_zero : ginvU 0 = 0 := gseek_none 0 (fun n e => by
  rw [(gmul_left n).zero] at e
  exact absurd e (by decide)) 256 0
theorem ginv_tab (a : UInt8) : ginvU a = gtabU a := by
  by_cases h : a = 0
  · subst h; rw [ginv_zero]; rfl
  · have h1 := ginv_mul a h
    have h2 := gtab_mul a h
    have h3 : gmulU (gmulU a (ginvU a)) (gtabU a) = gmulU (ginvU a) (gmulU a (gtabU a)) := by rw [gmul_comm a (ginvU a), ← gmul_assoc]
    rw [h1, h2, gmul_comm, gmul_one, gmul_one] at h3
    exact h3.symm
theorem ginv_back (a : UInt8) : ginvU (ginvU a) = a := by
  by_cases h : a = 0
  · subst h; rw [ginv_zero, ginv_zero]
  · have h1 := ginv_mul a h
    have h0 : ginvU a ≠ 0 := fun e => by
      rw [e, (gmul_adds a).zero] at h1
      exact absurd h1 (by decide)
    have h2 := ginv_mul _ h0
    have h3 : gmulU a (gmulU (ginvU a) (ginvU (ginvU a))) = ginvU (ginvU a) := by rw [gmul_assoc, h1, gmul_comm, gmul_one]
    rw [h2, gmul_one] at h3
    exact h3.symm
/-- What a is put for. -/
def gleftU (a : UInt8) (n : Nat) : UInt8 := UInt8.ofNat (a.toNat * 2 ^ n) ^^^ UInt8.ofNat (a.toNat / 2 ^ (8 - n))
def gboxU (a : UInt8) : UInt8 := ginvU a ^^^ gleftU (ginvU a) 1 ^^^ gleftU (ginvU a) 2 ^^^ gleftU (ginvU a) 3 ^^^ gleftU (ginvU a) 4 ^^^ 99
/-- What each is put for, as it is found, and back. -/
def gboxTab : List Nat := [99, 124, 119, 123, 242, 107, 111, 197, 48, 1, 103, 43, 254, 215, 171, 118, 202, 130, 201, 125, 250, 89, 71, 240, 173, 212, 162, 175, 156, 164, 114, 192, 183, 253, 147, 38, 54, 63, 247, 204, 52, 165, 229, 241, 113, 216, 49, 21, 4, 199, 35, 195, 24, 150, 5, 154, 7, 18, 128, 226, 235, 39, 178, 117, 9, 131, 44, 26, 27, 110, 90, 160, 82, 59, 214, 179, 41, 227, 47, 132, 83, 209, 0, 237, 32, 252, 177, 91, 106, 203, 190, 57, 74, 76, 88, 207, 208, 239, 170, 251, 67, 77, 51, 133, 69, 249, 2, 127, 80, 60, 159, 168, 81, 163, 64, 143, 146, 157, 56, 245, 188, 182, 218, 33, 16, 255, 243, 210, 205, 12, 19, 236, 95, 151, 68, 23, 196, 167, 126, 61, 100, 93, 25, 115, 96, 129, 79, 220, 34, 42, 144, 136, 70, 238, 184, 20, 222, 94, 11, 219, 224, 50, 58, 10, 73, 6, 36, 92, 194, 211, 172, 98, 145, 149, 228, 121, 231, 200, 55, 109, 141, 213, 78, 169, 108, 86, 244, 234, 101, 122, 174, 8, 186, 120, 37, 46, 28, 166, 180, 198, 232, 221, 116, 31, 75, 189, 139, 138, 112, 62, 181, 102, 72, 3, 246, 14, 97, 53, 87, 185, 134, 193, 29, 158, 225, 248, 152, 17, 105, 217, 142, 148, 155, 30, 135, 233, 206, 85, 40, 223, 140, 161, 137, 13, 191, 230, 66, 104, 65, 153, 45, 15, 176, 84, 187, 22]
def gunboxTab : List Nat := [82, 9, 106, 213, 48, 54, 165, 56, 191, 64, 163, 158, 129, 243, 215, 251, 124, 227, 57, 130, 155, 47, 255, 135, 52, 142, 67, 68, 196, 222, 233, 203, 84, 123, 148, 50, 166, 194, 35, 61, 238, 76, 149, 11, 66, 250, 195, 78, 8, 46, 161, 102, 40, 217, 36, 178, 118, 91, 162, 73, 109, 139, 209, 37, 114, 248, 246, 100, 134, 104, 152, 22, 212, 164, 92, 204, 93, 101, 182, 146, 108, 112, 72, 80, 253, 237, 185, 218, 94, 21, 70, 87, 167, 141, 157, 132, 144, 216, 171, 0, 140, 188, 211, 10, 247, 228, 88, 5, 184, 179, 69, 6, 208, 44, 30, 143, 202, 63, 15, 2, 193, 175, 189, 3, 1, 19, 138, 107, 58, 145, 17, 65, 79, 103, 220, 234, 151, 242, 207, 206, 240, 180, 230, 115, 150, 172, 116, 34, 231, 173, 53, 133, 226, 249, 55, 232, 28, 117, 223, 110, 71, 241, 26, 113, 29, 41, 197, 137, 111, 183, 98, 14, 170, 24, 190, 27, 252, 86, 62, 75, 198, 210, 121, 32, 154, 219, 192, 254, 120, 205, 90, 244, 31, 221, 168, 51, 136, 7, 199, 49, 177, 18, 16, 89, 39, 128, 236, 95, 96, 81, 127, 169, 25, 181, 74, 13, 45, 229, 122, 159, 147, 201, 156, 239, 160, 224, 59, 77, 174, 42, 245, 176, 200, 235, 187, 60, 131, 83, 153, 97, 23, 43, 4, 126, 186, 119, 214, 38, 225, 105, 20, 99, 85, 33, 12, 125]
theorem gbox_tab0 : ∀ a : UInt8, gtabU a ^^^ gleftU (gtabU a) 1 ^^^ gleftU (gtabU a) 2 ^^^ gleftU (gtabU a) 3 ^^^ gleftU (gtabU a) 4 ^^^ 99 = UInt8.ofNat (gboxTab.getD a.toNat 0) := all_bytes (by decide +kernel)
theorem gbox_tab (a : UInt8) : gboxU a = UInt8.ofNat (gboxTab.getD a.toNat 0) := by
  unfold gboxU
  rw [ginv_tab, gbox_tab0]
theorem gunbox_tab : ∀ a : UInt8, UInt8.ofNat (gunboxTab.getD (UInt8.ofNat (gboxTab.getD a.toNat 0)).toNat 0) = a := all_bytes (by decide +kernel)
/-- No two are put for one. -/
theorem gbox_inj {a b : UInt8} (h : gboxU a = gboxU b) : a = b := by
  rw [gbox_tab, gbox_tab] at h
  rw [← gunbox_tab a, h, gunbox_tab]

/-- A column that is mixed: each of the four, the next ones going round. -/
def gmixU (a b c d : UInt8) : UInt8 := gtwiceU a ^^^ b ^^^ gtwiceU b ^^^ c ^^^ d
theorem gx_left (a b c : UInt8) : a ^^^ (b ^^^ c) = b ^^^ (a ^^^ c) := by rw [← UInt8.xor_assoc, UInt8.xor_comm a b, UInt8.xor_assoc]
theorem gx_cancel (a b : UInt8) : a ^^^ (a ^^^ b) = b := by rw [← UInt8.xor_assoc, UInt8.xor_self, UInt8.zero_xor]
theorem gtwice_xor (x y : UInt8) : gtwiceU (x ^^^ y) = gtwiceU x ^^^ gtwiceU y := gtwice_adds x y
/-- Mixed twice. -/
theorem gmix_two (a b c d : UInt8) : gmixU (gmixU a b c d) (gmixU b c d a) (gmixU c d a b) (gmixU d a b c) = gtwiceU (gtwiceU a) ^^^ a ^^^ gtwiceU (gtwiceU c) := by
  unfold gmixU
  simp only [gtwice_xor]
  simp only [UInt8.xor_assoc, gx_left, gx_cancel, UInt8.xor_comm]
/-- .. and four times: as it was. -/
theorem gmix_four (a c : UInt8) : (fun a c => gtwiceU (gtwiceU a) ^^^ a ^^^ gtwiceU (gtwiceU c)) (gtwiceU (gtwiceU a) ^^^ a ^^^ gtwiceU (gtwiceU c)) (gtwiceU (gtwiceU c) ^^^ c ^^^ gtwiceU (gtwiceU a)) = a := by
  dsimp only
  simp only [gtwice_xor]
  simp only [UInt8.xor_assoc, gx_left, gx_cancel, UInt8.xor_comm, UInt8.xor_self, UInt8.xor_zero]

end Go.Proofs.YtacbpdampdikjaaDoor

/-
  Powers: plain mathematics. No program is named here.
-/
namespace Go.Proofs.YtacbpdampdikjaaDoor
open Go.RowKit

section
attribute [local irreducible] gmulU
/-- The product of n times a. -/
def gpowU (a : UInt8) : Nat → UInt8
  | 0 => 1
  | n + 1 => gmulU (gpowU a n) a
theorem gone_mul (a : UInt8) : gmulU 1 a = a := by rw [gmul_comm, gmul_one]
theorem gpow_add (a : UInt8) (m : Nat) : ∀ n, gpowU a (m + n) = gmulU (gpowU a m) (gpowU a n)
  | 0 => (gmul_one _).symm
  | n + 1 => by
    show gmulU (gpowU a (m + n)) a = gmulU (gpowU a m) (gmulU (gpowU a n) a)
    rw [gpow_add a m n, gmul_assoc]
theorem gpow_sq (a : UInt8) : ∀ n, gpowU (gmulU a a) n = gpowU a (2 * n)
  | 0 => rfl
  | n + 1 => by
    show gmulU (gpowU (gmulU a a) n) (gmulU a a) = gmulU (gmulU (gpowU a (2 * n)) a) a
    rw [gpow_sq a n, gmul_assoc]
/-- How often, as the document counts. -/
def gtimes (n : Int) : Nat := if n < 1 then 0 else ((n - 1) % 255 + 1).toNat
def gpowerU (a : UInt8) (n : Int) : UInt8 := gpowU a (gtimes n)
end
theorem gpow_254 (a : UInt8) : gpowU a 254 = gmulU (gmulU (gmulU (gmulU (gmulU (gmulU (gpowU a 2) (gpowU a 4)) (gpowU a 8)) (gpowU a 16)) (gpowU a 32)) (gpowU a 64)) (gpowU a 128) := by
  rw [← gpow_add, ← gpow_add, ← gpow_add, ← gpow_add, ← gpow_add, ← gpow_add]
def gsq (a : UInt8) : UInt8 := gmulU a a
theorem gpow_two (a : UInt8) (n : Nat) : gpowU a (2 * n) = gsq (gpowU a n) := by
  rw [show 2 * n = n + n by omega, gpow_add]; rfl
def gup (a : UInt8) : UInt8 :=
  let b := gsq a; let c := gsq b; let d := gsq c; let e := gsq d; let f := gsq e; let g := gsq f; let h := gsq g
  gmulU (gmulU (gmulU (gmulU (gmulU (gmulU b c) d) e) f) g) h
theorem gup_pow (a : UInt8) : gpowU a 254 = gup a := by
  have h1 : gpowU a 1 = a := gone_mul a
  have h2 : gpowU a 2 = gsq a := by rw [show 2 = 2 * 1 from rfl, gpow_two, h1]
  have h3 : gpowU a 4 = gsq (gsq a) := by rw [show 4 = 2 * 2 from rfl, gpow_two, h2]
  have h4 : gpowU a 8 = gsq (gsq (gsq a)) := by rw [show 8 = 2 * 4 from rfl, gpow_two, h3]
  have h5 : gpowU a 16 = gsq (gsq (gsq (gsq a))) := by rw [show 16 = 2 * 8 from rfl, gpow_two, h4]
  have h6 : gpowU a 32 = gsq (gsq (gsq (gsq (gsq a)))) := by rw [show 32 = 2 * 16 from rfl, gpow_two, h5]
  have h7 : gpowU a 64 = gsq (gsq (gsq (gsq (gsq (gsq a))))) := by rw [show 64 = 2 * 32 from rfl, gpow_two, h6]
  have h8 : gpowU a 128 = gsq (gsq (gsq (gsq (gsq (gsq (gsq a)))))) := by rw [show 128 = 2 * 64 from rfl, gpow_two, h7]
  rw [gpow_254, h2, h3, h4, h5, h6, h7, h8]
  rfl
theorem gup_tab : ∀ a : UInt8, gup a = gtabU a := all_bytes (by decide +kernel)
/-- What is told as the inverse is the power of 254. -/
theorem gpower_inv (a : UInt8) : gpowerU a 254 = ginvU a := by
  rw [show gpowerU a 254 = gpowU a 254 from rfl, gup_pow, gup_tab, ginv_tab]

end Go.Proofs.YtacbpdampdikjaaDoor

/-
  AES with keys of 256 bits: plain mathematics. No program is named here.
-/
namespace Go.Proofs.YtacbpdampdikjaaDoor
open Go.RowKit

theorem amap_inj {α β : Type} {f : α → β} (hf : ∀ x y, f x = f y → x = y) : ∀ (a b : List α), a.map f = b.map f → a = b
  | [], [], _ => rfl
  | [], _ :: _, h => by simp at h
  | _ :: _, [], h => by simp at h
  | x :: a, y :: b, h => by
    simp only [List.map_cons, List.cons.injEq] at h
    rw [hf x y h.1, amap_inj hf a b h.2]
/-- Bytes as numbers. -/
def abn (l : List UInt8) : List Nat := l.map (·.toNat)
theorem abn_length (l : List UInt8) : (abn l).length = l.length := by simp [abn]
theorem abn_get {l : List UInt8} {k : Nat} {x : UInt8} (h : l[k]? = some x) : (abn l)[k]? = some x.toNat := by simp [abn, h]
theorem abn_append (a b : List UInt8) : abn (a ++ b) = abn a ++ abn b := by simp [abn]
theorem abn_inj {a b : List UInt8} (h : abn a = abn b) : a = b := by
  exact amap_inj (fun x y hxy => UInt8.toNat_inj.1 hxy) a b h

section
/-- The steps; the box is handed in. -/
def asubB (f : UInt8 → UInt8) (s : List UInt8) : List UInt8 := s.map f
def ashiftU (s : List UInt8) : List UInt8 := (List.range 16).map fun i => s.getD (4 * ((i / 4 + i % 4) % 4) + i % 4) 0
def amixU : List UInt8 → List UInt8
  | a :: b :: c :: d :: t => gmixU a b c d :: gmixU b c d a :: gmixU c d a b :: gmixU d a b c :: amixU t
  | _ => []
def aaddU (s k : List UInt8) : List UInt8 := List.zipWith (· ^^^ ·) s k

/-- The word ahead, as it is taken up into the one at place i. -/
def achgB (f : UInt8 → UInt8) (i : Nat) : List UInt8 → List UInt8
  | [a, b, c, d] => if i % 8 = 0 then [f b ^^^ gpowerU 2 ((i / 8 : Nat) - 1 : Int), f c, f d, f a] else if i % 4 = 0 then [f a, f b, f c, f d] else [a, b, c, d]
  | _ => []
/-- The word at place i, of those ahead. -/
def anextB (f : UInt8 → UInt8) (L : List UInt8) (i : Nat) : List UInt8 := List.zipWith (· ^^^ ·) ((L.drop (4 * (i - 8))).take 4) (achgB f i ((L.drop (4 * (i - 1))).take 4))
/-- The words, n behind the key's eight. -/
def aschB (f : UInt8 → UInt8) (key : List UInt8) : Nat → List UInt8
  | 0 => key
  | n + 1 => aschB f key n ++ anextB f (aschB f key n) (n + 8)
def akeysB (f : UInt8 → UInt8) (key : List UInt8) : List UInt8 := aschB f key 52

def akeyAt (k : List UInt8) (i : Nat) : List UInt8 := (k.drop (16 * i)).take 16
def aroundsB (f : UInt8 → UInt8) (k s : List UInt8) : Nat → List UInt8
  | 0 => aaddU s (akeyAt k 0)
  | i + 1 => aaddU (amixU (ashiftU (asubB f (aroundsB f k s i)))) (akeyAt k (i + 1))
def aencB (f : UInt8 → UInt8) (k s : List UInt8) : List UInt8 := aaddU (ashiftU (asubB f (aroundsB f k s 13))) (akeyAt k 14)
end
/-- The box. -/
def asubU := asubB gboxU
def akeysU := akeysB gboxU
def aencU := aencB gboxU

theorem asubB_length (f : UInt8 → UInt8) (s : List UInt8) : (asubB f s).length = s.length := by simp [asubB]
theorem ashift_length (s : List UInt8) : (ashiftU s).length = 16 := by simp [ashiftU]
theorem aadd_length {s k : List UInt8} {n : Nat} (h1 : s.length = n) (h2 : k.length = n) : (aaddU s k).length = n := by simp [aaddU, h1, h2]

/-- Sixteen, one by one. -/
theorem sixteen {s : List UInt8} (h : s.length = 16) : ∃ a0 a1 a2 a3 b0 b1 b2 b3 c0 c1 c2 c3 d0 d1 d2 d3 : UInt8, s = [a0, a1, a2, a3, b0, b1, b2, b3, c0, c1, c2, c3, d0, d1, d2, d3] := by
  match s, h with
  | [a0, a1, a2, a3, b0, b1, b2, b3, c0, c1, c2, c3, d0, d1, d2, d3], _ => exact ⟨_, _, _, _, _, _, _, _, _, _, _, _, _, _, _, _, rfl⟩
theorem amix_length {s : List UInt8} (h : s.length = 16) : (amixU s).length = 16 := by
  obtain ⟨a0, a1, a2, a3, b0, b1, b2, b3, c0, c1, c2, c3, d0, d1, d2, d3, rfl⟩ := sixteen h
  rfl

/-- Shifted four times: as it was. -/
theorem ashift_four {s : List UInt8} (h : s.length = 16) : ashiftU (ashiftU (ashiftU (ashiftU s))) = s := by
  obtain ⟨a0, a1, a2, a3, b0, b1, b2, b3, c0, c1, c2, c3, d0, d1, d2, d3, rfl⟩ := sixteen h
  rfl
theorem ashift_at {s : List UInt8} (h : s.length = 16) {c r : Nat} (hc : c < 4) (hr : r < 4) : ∃ x : UInt8, s[4 * ((c + r) % 4) + r]? = some x ∧ (ashiftU s)[4 * c + r]? = some x := by
  have hi : 4 * ((c + r) % 4) + r < s.length := by omega
  refine ⟨s[4 * ((c + r) % 4) + r], List.getElem?_eq_getElem hi, ?_⟩
  unfold ashiftU
  rw [List.getElem?_map, List.getElem?_range (by omega)]
  rw [Option.map_some]
  rw [show (4 * c + r) / 4 = c by omega, show (4 * c + r) % 4 = r by omega]
  rw [List.getD_eq_getElem?_getD, List.getElem?_eq_getElem hi, Option.getD_some]

/-- Two mixed once are two of the field, mixed twice. -/
theorem amix_four {s : List UInt8} (h : s.length = 16) : amixU (amixU (amixU (amixU s))) = s := by
  obtain ⟨a0, a1, a2, a3, b0, b1, b2, b3, c0, c1, c2, c3, d0, d1, d2, d3, rfl⟩ := sixteen h
  simp only [amixU]
  simp only [gmix_two]
  have e := fun a c => gmix_four a c
  dsimp only at e
  simp only [e]
theorem aadd_twice : ∀ (s k : List UInt8), s.length = k.length → aaddU (aaddU s k) k = s
  | [], k, _ => by simp [aaddU]
  | a :: s, [], h => by simp at h
  | a :: s, b :: k, h => by
    have ih := aadd_twice s k (by simpa using h)
    unfold aaddU at ih ⊢
    simp only [List.zipWith_cons_cons, ih]
    rw [UInt8.xor_assoc, UInt8.xor_self, UInt8.xor_zero]

theorem asub_inj {s t : List UInt8} (h : asubU s = asubU t) : s = t := amap_inj (fun _ _ hxy => gbox_inj hxy) s t h
theorem ashift_inj {s t : List UInt8} (hs : s.length = 16) (ht : t.length = 16) (h : ashiftU s = ashiftU t) : s = t := by rw [← ashift_four hs, ← ashift_four ht, h]
theorem amix_inj {s t : List UInt8} (hs : s.length = 16) (ht : t.length = 16) (h : amixU s = amixU t) : s = t := by rw [← amix_four hs, ← amix_four ht, h]
theorem aadd_inj {s t k : List UInt8} (hs : s.length = k.length) (ht : t.length = k.length) (h : aaddU s k = aaddU t k) : s = t := by rw [← aadd_twice s k hs, ← aadd_twice t k ht, h]

theorem akeyAt_length {k : List UInt8} (hk : k.length = 240) {i : Nat} (hi : i < 15) : (akeyAt k i).length = 16 := by simp [akeyAt, hk]; omega
theorem arounds_length {f : UInt8 → UInt8} {k s : List UInt8} (hk : k.length = 240) (hs : s.length = 16) : ∀ {i : Nat}, i < 15 → (aroundsB f k s i).length = 16
  | 0, _ => aadd_length hs (akeyAt_length hk (by omega))
  | i + 1, h => aadd_length (amix_length (ashift_length _)) (akeyAt_length hk h)
theorem aenc_length {f : UInt8 → UInt8} {k s : List UInt8} (hk : k.length = 240) : (aencB f k s).length = 16 := aadd_length (ashift_length _) (akeyAt_length hk (by omega))
theorem arounds_inj {k s t : List UInt8} (hk : k.length = 240) (hs : s.length = 16) (ht : t.length = 16) : ∀ {i : Nat}, i < 15 → aroundsB gboxU k s i = aroundsB gboxU k t i → s = t
  | 0, _, h => aadd_inj (by rw [hs, akeyAt_length hk (by omega)]) (by rw [ht, akeyAt_length hk (by omega)]) h
  | i + 1, hi, h => by
    have h1 : amixU (ashiftU (asubB gboxU (aroundsB gboxU k s i))) = amixU (ashiftU (asubB gboxU (aroundsB gboxU k t i))) := aadd_inj (by rw [amix_length (ashift_length _), akeyAt_length hk hi]) (by rw [amix_length (ashift_length _), akeyAt_length hk hi]) h
    have h2 := amix_inj (ashift_length _) (ashift_length _) h1
    have l1 := arounds_length (f := gboxU) hk hs (i := i) (by omega)
    have l2 := arounds_length (f := gboxU) hk ht (i := i) (by omega)
    have h3 := ashift_inj (by rw [asubB_length]; exact l1) (by rw [asubB_length]; exact l2) h2
    exact arounds_inj hk hs ht (by omega) (asub_inj h3)
/-- No two blocks are encrypted to one. -/
theorem aenc_inj {k s t : List UInt8} (hk : k.length = 240) (hs : s.length = 16) (ht : t.length = 16) (h : aencU k s = aencU k t) : s = t := by
  have h1 : ashiftU (asubB gboxU (aroundsB gboxU k s 13)) = ashiftU (asubB gboxU (aroundsB gboxU k t 13)) := aadd_inj (by rw [ashift_length, akeyAt_length hk (by omega)]) (by rw [ashift_length, akeyAt_length hk (by omega)]) h
  have l1 := arounds_length (f := gboxU) hk hs (i := 13) (by omega)
  have l2 := arounds_length (f := gboxU) hk ht (i := 13) (by omega)
  have h3 := ashift_inj (by rw [asubB_length]; exact l1) (by rw [asubB_length]; exact l2) h1
  exact arounds_inj hk hs ht (by omega) (asub_inj h3)

/-- Four, one by one. -/
theorem afour {s : List UInt8} (h : s.length = 4) : ∃ a b c d : UInt8, s = [a, b, c, d] := by
  match s, h with
  | [a, b, c, d], _ => exact ⟨_, _, _, _, rfl⟩
theorem achg_length (f : UInt8 → UInt8) (i : Nat) {w : List UInt8} (h : w.length = 4) : (achgB f i w).length = 4 := by
  obtain ⟨a, b, c, d, rfl⟩ := afour h
  simp only [achgB]
  split
  · rfl
  · split <;> rfl
theorem anext_length {f : UInt8 → UInt8} {L : List UInt8} {i : Nat} (h8 : 8 ≤ i) (h : L.length = 4 * i) : (anextB f L i).length = 4 := by
  unfold anextB
  rw [List.length_zipWith, achg_length f i (by simp [h]; omega)]
  simp [h]; omega
theorem asch_length {f : UInt8 → UInt8} {key : List UInt8} (h : key.length = 32) : ∀ n, (aschB f key n).length = 4 * (n + 8)
  | 0 => h
  | n + 1 => by
    show (aschB f key n ++ anextB f (aschB f key n) (n + 8)).length = _
    rw [List.length_append, asch_length h n, anext_length (by omega) (asch_length h n)]
    omega
theorem akeys_length {f : UInt8 → UInt8} {key : List UInt8} (h : key.length = 32) : (akeysB f key).length = 240 := asch_length h 52
theorem asch_get {f : UInt8 → UInt8} {key : List UInt8} (h : key.length = 32) : ∀ {n m j : Nat}, n ≤ m → j < 4 * (n + 8) → (aschB f key m)[j]? = (aschB f key n)[j]? := by
  intro n m j hnm hj
  induction m with
  | zero => rw [show n = 0 by omega]
  | succ m ih =>
    rcases Nat.lt_or_ge n (m + 1) with h1 | h1
    · show (aschB f key m ++ anextB f (aschB f key m) (m + 8))[j]? = _
      rw [List.getElem?_append_left (by rw [asch_length h]; omega), ih (by omega)]
    · rw [show n = m + 1 by omega]
/-- The first eight words are the key's. -/
theorem akeys_low {f : UInt8 → UInt8} {key : List UInt8} (h : key.length = 32) {j : Nat} (hj : j < 32) : (akeysB f key)[j]? = key[j]? := asch_get (n := 0) h (by omega) (by omega)
/-- The word at place i of 60. -/
def awordAt (L : List UInt8) (i : Nat) : List UInt8 := (L.drop (4 * i)).take 4
theorem awordAt_length {L : List UInt8} (h : L.length = 240) {i : Nat} (hi : i < 60) : (awordAt L i).length = 4 := by simp [awordAt, h]; omega
theorem awordAt_get {L : List UInt8} {i j : Nat} (hj : j < 4) : (awordAt L i)[j]? = L[4 * i + j]? := by
  unfold awordAt
  rw [List.getElem?_take_of_lt hj, List.getElem?_drop]
theorem aword_ext {L M : List UInt8} {i : Nat} (h : ∀ j, j < 4 → L[4 * i + j]? = M[4 * i + j]?) : awordAt L i = awordAt M i := by
  apply List.ext_getElem?
  intro j
  rcases Nat.lt_or_ge j 4 with hj | hj
  · rw [awordAt_get hj, awordAt_get hj, h j hj]
  · rw [List.getElem?_eq_none (by simp [awordAt]; omega), List.getElem?_eq_none (by simp [awordAt]; omega)]
/-- Each next one is the one eight ahead, by turns with the one ahead, changed. -/
theorem akeys_high {f : UInt8 → UInt8} {key : List UInt8} (h : key.length = 32) {i : Nat} (h8 : 8 ≤ i) (hi : i < 60) :
    awordAt (akeysB f key) i = List.zipWith (· ^^^ ·) (awordAt (akeysB f key) (i - 8)) (achgB f i (awordAt (akeysB f key) (i - 1))) := by
  obtain ⟨n, rfl⟩ : ∃ n, i = n + 8 := ⟨i - 8, by omega⟩
  have e1 : awordAt (akeysB f key) (n + 8 - 8) = awordAt (aschB f key n) (n + 8 - 8) := aword_ext fun j hj => asch_get h (by omega) (by omega)
  have e2 : awordAt (akeysB f key) (n + 8 - 1) = awordAt (aschB f key n) (n + 8 - 1) := aword_ext fun j hj => asch_get h (by omega) (by omega)
  have e3 : awordAt (akeysB f key) (n + 8) = awordAt (aschB f key (n + 1)) (n + 8) := aword_ext fun j hj => asch_get h (by omega) (by omega)
  rw [e1, e2, e3]
  show ((aschB f key n ++ anextB f (aschB f key n) (n + 8)).drop (4 * (n + 8))).take 4 = anextB f (aschB f key n) (n + 8)
  rw [List.drop_append_of_le_length (by rw [asch_length h]; omega), List.drop_of_length_le (by rw [asch_length h]; omega), List.nil_append]
  exact List.take_of_length_le (by rw [anext_length (by omega) (asch_length h n)]; omega)

/-- The box by its table: for what is reckoned. -/
def gboxT (a : UInt8) : UInt8 := UInt8.ofNat (gboxTab.getD a.toNat 0)
theorem gboxU_T : gboxU = gboxT := funext gbox_tab

def akeyX : List UInt8 := (List.range 32).map UInt8.ofNat
def ablockX : List UInt8 := (List.range 16).map fun i => UInt8.ofNat (17 * i)
theorem alive_math0 : (aencB gboxT (akeysB gboxT akeyX) ablockX).take 4 = [142, 162, 183, 202] := by decide +kernel
theorem alive_math : (aencU (akeysU akeyX) ablockX).take 4 = [142, 162, 183, 202] := by
  unfold aencU akeysU
  rw [gboxU_T]
  exact alive_math0

end Go.Proofs.YtacbpdampdikjaaDoor

namespace Go.Proofs.YtacbpdampdikjaaDoor
open Go.RowKit

/-- What Print answers. -/
def printL (n : Int) : List UInt8 := if n < 0 then [] else Lib.decDigits n.toNat
theorem dec_small {n : Nat} (h : n < 10) : Lib.decDigits n = [UInt8.ofNat (48 + n)] := by rw [Lib.decDigits, dif_pos h]
theorem dec_big {n : Nat} (h : ¬ n < 10) : Lib.decDigits n = Lib.decDigits (n / 10) ++ Lib.decDigits (n % 10) := by
  rw [Lib.decDigits, dif_neg h, dec_small (show n % 10 < 10 by omega)]
theorem dec_len_lt : ∀ (k n : Nat), n < 10 ^ (k + 1) → (Lib.decDigits n).length ≤ k + 1
  | 0, n, h => by rw [dec_small (by simpa using h)]; simp
  | k + 1, n, h => by
    by_cases h10 : n < 10
    · rw [dec_small h10]; simp
    · rw [dec_big h10, List.length_append, dec_small (show n % 10 < 10 by omega)]
      have := dec_len_lt k (n / 10) (by rw [Nat.pow_succ] at h; omega)
      simp; omega
theorem dec_len {n : Nat} (h : n < 9223372036854775808) : (Lib.decDigits n).length ≤ 20 := by
  have := dec_len_lt 18 n (by omega)
  omega

end Go.Proofs.YtacbpdampdikjaaDoor

namespace Go.Proofs.YtacbpdampdikjaaDoor
open Go.RowKit

theorem getL_putL : ∀ (k m : Nat), getL (putL m k) = m % 256 ^ k
  | 0, m => by simp [getL, putL, Nat.mod_one]
  | k + 1, m => by
    rw [putL, getL_snoc, getL_putL k (m / 256), UInt8.toNat_ofNat', show 256 ^ (k + 1) = 256 * 256 ^ k by rw [Nat.pow_succ, Nat.mul_comm], Nat.mod_mul]
    omega
theorem get_put8 {n : Nat} (h : n < 18446744073709551616) : getV (putL n 8) = .tuple #[.int .u64 n, .int .i64 0] := by
  rw [getV, if_pos (by rw [putL_length]; omega), getL_putL, Nat.mod_eq_of_lt (by omega)]

theorem dec_all : ∀ (f n : Nat), n < f → (Lib.decDigits n).all isDig = true
  | 0, n, h => by omega
  | f + 1, n, h => by
    have hd : ∀ c : Nat, c < 10 → isDig (UInt8.ofNat (48 + c)) = true := fun c hc => by
      apply decide_eq_true
      rw [UInt8.toNat_ofNat']
      omega
    by_cases h10 : n < 10
    · rw [dec_small h10]; simp only [List.all_cons, List.all_nil, Bool.and_true]; exact hd n h10
    · rw [dec_big h10, List.all_append, dec_all f (n / 10) (by omega), dec_small (show n % 10 < 10 by omega)]
      simp only [List.all_cons, List.all_nil, Bool.and_true, Bool.true_and]
      exact hd _ (by omega)
theorem dec_num : ∀ (f n : Nat), n < f → numL (Lib.decDigits n) = n
  | 0, n, h => by omega
  | f + 1, n, h => by
    have hd : ∀ c : Nat, c < 10 → (UInt8.ofNat (48 + c)).toNat - 48 = c := fun c hc => by rw [UInt8.toNat_ofNat']; omega
    by_cases h10 : n < 10
    · rw [dec_small h10]
      have := hd n h10
      simp only [numL, List.foldl_cons, List.foldl_nil]
      omega
    · rw [dec_big h10, dec_small (show n % 10 < 10 by omega), numL_snoc, dec_num f (n / 10) (by omega), hd _ (by omega)]
      omega
theorem dec_head : ∀ (f n : Nat), n < f → 0 < n → (Lib.decDigits n).head? ≠ some 48
  | 0, n, h, _ => by omega
  | f + 1, n, h, h0 => by
    by_cases h10 : n < 10
    · rw [dec_small h10]
      intro e
      simp only [List.head?_cons, Option.some.injEq] at e
      have := congrArg UInt8.toNat e
      rw [UInt8.toNat_ofNat'] at this
      simp at this
      omega
    · rw [dec_big h10]
      have hne : Lib.decDigits (n / 10) ≠ [] := fun e => by
        have h1 := dec_num (n / 10 + 1) (n / 10) (by omega)
        rw [e] at h1
        simp [numL] at h1
        omega
      have hh := dec_head f (n / 10) (by omega) (by omega)
      obtain ⟨x, t, e⟩ := List.exists_cons_of_ne_nil hne
      rw [e] at hh ⊢
      exact hh
theorem dec_pos (n : Nat) : 1 ≤ (Lib.decDigits n).length := by
  by_cases h10 : n < 10
  · rw [dec_small h10]; simp
  · rw [dec_big h10, List.length_append, dec_small (show n % 10 < 10 by omega)]; simp
theorem parse_print {n : Nat} (h : n < 1000000000000000000) : parseV (Lib.decDigits n) n = .tuple #[.int .i64 n, .int .i64 0] := by
  have hl := dec_len_lt 17 n (by omega)
  have hp := dec_pos n
  have hbad : parseBad (Lib.decDigits n) = false := by
    unfold parseBad
    rw [decide_eq_false (show ¬ (Lib.decDigits n).length < 1 by omega), decide_eq_false (show ¬ 18 < (Lib.decDigits n).length by omega)]
    by_cases h10 : n < 10
    · rw [dec_small h10]; rfl
    · rw [decide_eq_false (dec_head (n + 1) n (by omega) (by omega)), Bool.and_false]; rfl
  have hn := dec_num (n + 1) n (by omega)
  rw [parse_ok (n : Int) hbad (dec_all (n + 1) n (by omega)) (by rw [hn]; omega), hn]

theorem parse_printL {z : Int} (h0 : 0 ≤ z) (h1 : z < 288230376151711744) : parseV (printL z) z = .tuple #[.int .i64 z, .int .i64 0] := by
  obtain ⟨k, rfl⟩ := Int.eq_ofNat_of_zero_le h0
  rw [printL, if_neg (by omega), Int.toNat_natCast]
  exact parse_print (by omega)

theorem xor_back {a b : List UInt8} (h : a.length ≤ b.length) : xorL (xorL a b) b = a := by
  induction a generalizing b with
  | nil => cases b <;> rfl
  | cons x a ih =>
    cases b with
    | nil => simp at h
    | cons y b =>
      simp only [List.length_cons, Nat.add_le_add_iff_right] at h
      show (x ^^^ y ^^^ y) :: xorL (xorL a b) b = x :: a
      rw [ih h, UInt8.xor_assoc, UInt8.xor_self, UInt8.xor_zero]

end Go.Proofs.YtacbpdampdikjaaDoor

/-
  Counter mode: plain mathematics. No program is named here.
-/
namespace Go.Proofs.YtacbpdampdikjaaDoor
open Go.RowKit

/-- What is carried, behind k places from the last one on. -/
def cN (c : List UInt8) (n : Nat) : Nat → Nat
  | 0 => n
  | k + 1 => (cN c n k + (c.getD (15 - k) 0).toNat) / 256
/-- The bytes, behind k places. -/
def cD (c : List UInt8) (n : Nat) : Nat → List UInt8
  | 0 => c
  | k + 1 => (cD c n k).set (15 - k) (UInt8.ofNat (cN c n k + (c.getD (15 - k) 0).toNat))
/-- The number that is n more. -/
def cplusU (c : List UInt8) (n : Nat) : List UInt8 := cD c n 16

theorem cD_length (c : List UInt8) (n : Nat) : ∀ k, (cD c n k).length = c.length
  | 0 => rfl
  | k + 1 => by rw [cD, List.length_set, cD_length c n k]
theorem cplus_length {c : List UInt8} {n : Nat} (h : c.length = 16) : (cplusU c n).length = 16 := by rw [cplusU, cD_length, h]
/-- What lies ahead is as it was. -/
theorem cD_ahead (c : List UInt8) (n : Nat) : ∀ {k j : Nat}, k ≤ 16 → j + k < 16 → (cD c n k)[j]? = c[j]?
  | 0, _, _, _ => rfl
  | k + 1, j, hk, h => by
    rw [cD, List.getElem?_set_ne (by omega), cD_ahead c n (by omega) (by omega)]
theorem cD_at {c : List UInt8} (h : c.length = 16) (n : Nat) {k : Nat} (hk : k < 16) : ∃ b : UInt8, c[15 - k]? = some b ∧ (cD c n k)[15 - k]? = some b ∧ cN c n (k + 1) = (cN c n k + b.toNat) / 256 ∧ cD c n (k + 1) = (cD c n k).set (15 - k) (UInt8.ofNat (cN c n k + b.toNat)) := by
  have hj : 15 - k < c.length := by omega
  have hg : c[15 - k]? = some c[15 - k] := List.getElem?_eq_getElem hj
  have hd : c.getD (15 - k) 0 = c[15 - k] := by rw [List.getD_eq_getElem?_getD, hg, Option.getD_some]
  exact ⟨c[15 - k], hg, by rw [cD_ahead c n (by omega) (by omega), hg], by rw [cN, hd], by rw [cD, hd]⟩
theorem cN_bound (c : List UInt8) {n : Nat} (hn : n ≤ 65535) : ∀ k, cN c n k ≤ 65535
  | 0 => hn
  | k + 1 => by
    have h1 := cN_bound c hn k
    have h2 := (c.getD (15 - k) 0).toNat_lt
    rw [cN]
    omega
/-- Nothing is carried any more: it stays as it is. -/
theorem cD_none {c : List UInt8} (h : c.length = 16) {n : Nat} : ∀ (d : Nat) {k : Nat}, k + d = 16 → cN c n k = 0 → cD c n k = cplusU c n
  | 0, k, hk, _ => by rw [show k = 16 by omega]; rfl
  | d + 1, k, hk, hz => by
    obtain ⟨b, h1, h2, h3, h4⟩ := cD_at h n (k := k) (by omega)
    have hb := b.toNat_lt
    have e : cD c n (k + 1) = cD c n k := by
      rw [h4, hz, Nat.zero_add, UInt8.ofNat_toNat]
      obtain ⟨h5, h6⟩ := List.getElem?_eq_some_iff.1 h2
      rw [← h6]
      exact List.set_getElem_self h5
    rw [← e]
    exact cD_none h d (by omega) (by rw [h3, hz]; omega)
theorem cD_end {c : List UInt8} (h : c.length = 16) {n k : Nat} (hk : k ≤ 16) (hz : cN c n k = 0) : cD c n k = cplusU c n := cD_none h (16 - k) (by omega) hz

/-- A block of the stream. -/
def cblkU (k s : List UInt8) (i : Nat) : List UInt8 := aencU k (cplusU s i)
/-- The first m blocks. -/
def cblksU (k s : List UInt8) : Nat → List UInt8
  | 0 => []
  | m + 1 => cblksU k s m ++ cblkU k s m
/-- The stream's first bytes. -/
def cstreamU (k s : List UInt8) (n : Nat) : List UInt8 := (cblksU k s n).take n
def coverU (k s t : List UInt8) : List UInt8 := xorL t (cstreamU k s t.length)

section
variable {k s : List UInt8}
theorem cblk_length (hk : k.length = 240) (i : Nat) : (cblkU k s i).length = 16 := aenc_length hk
theorem cblks_length (hk : k.length = 240) : ∀ m, (cblksU k s m).length = 16 * m
  | 0 => rfl
  | m + 1 => by rw [cblksU, List.length_append, cblks_length hk m, cblk_length hk]; omega
theorem cblks_get (hk : k.length = 240) {m j : Nat} : ∀ d, j < 16 * m → (cblksU k s (m + d))[j]? = (cblksU k s m)[j]?
  | 0, _ => rfl
  | d + 1, h => by
    show (cblksU k s (m + d) ++ cblkU k s (m + d))[j]? = _
    rw [List.getElem?_append_left (by rw [cblks_length hk]; omega), cblks_get hk d h]
/-- So many blocks as there are bytes at least: it is all the same. -/
theorem cblks_take (hk : k.length = 240) {m n : Nat} (h : n ≤ 16 * m) : (cblksU k s m).take n = cstreamU k s n := by
  apply List.ext_getElem?
  intro j
  unfold cstreamU
  rw [List.getElem?_take, List.getElem?_take]
  split
  · next hj =>
    rcases Nat.le_total m n with h1 | h1
    · have := cblks_get (s := s) hk (m := m) (j := j) (n - m) (by omega)
      rw [← this, show m + (n - m) = n by omega]
    · have := cblks_get (s := s) hk (m := n) (j := j) (m - n) (by omega)
      rw [← this, show n + (m - n) = m by omega]
  · rfl
theorem cstream_length (hk : k.length = 240) (n : Nat) : (cstreamU k s n).length = n := by
  rw [cstreamU, List.length_take, cblks_length hk]; omega
/-- Less is the first of more. -/
theorem cstream_first (hk : k.length = 240) {m n : Nat} (h : m ≤ n) : (cstreamU k s n).take m = cstreamU k s m := by
  rw [cstreamU, List.take_take, Nat.min_eq_left h, cblks_take hk (by omega)]
/-- Where the block at place i lies. -/
theorem cstream_get (hk : k.length = 240) {n i j : Nat} {x : UInt8} (hx : (cblkU k s i)[j]? = some x) (hn : 16 * i + j < n) : (cstreamU k s n)[16 * i + j]? = some x := by
  have hj : j < 16 := by
    obtain ⟨h, _⟩ := List.getElem?_eq_some_iff.1 hx
    rwa [cblk_length hk] at h
  rw [cstreamU, List.getElem?_take_of_lt hn]
  have e := cblks_get (s := s) hk (m := i + 1) (j := 16 * i + j) (n - (i + 1)) (by omega)
  rcases Nat.lt_or_ge i n with h1 | h1
  · rw [show n = i + 1 + (n - (i + 1)) by omega, e]
    show (cblksU k s i ++ cblkU k s i)[16 * i + j]? = some x
    rw [List.getElem?_append_right (by rw [cblks_length hk]; omega), cblks_length hk, show 16 * i + j - 16 * i = j by omega, hx]
  · omega
theorem cstream_abn (hk : k.length = 240) (n i j x : Nat) (hx : (abn (cblkU k s i))[j]? = some x) (hn : 16 * i + j < n) : (abn (cstreamU k s n))[16 * i + j]? = some x := by
  unfold abn at hx
  rw [List.getElem?_map] at hx
  cases hq : (cblkU k s i)[j]? with
  | none => rw [hq] at hx; cases hx
  | some y =>
    rw [hq] at hx
    injection hx with hx
    rw [← hx]
    exact abn_get (cstream_get hk hq hn)
theorem cblk_abn (hk : k.length = 240) (i : Nat) : (abn (cblkU k s i)).length = 16 := by rw [abn_length, cblk_length hk]
theorem cover_length (hk : k.length = 240) (t : List UInt8) : (coverU k s t).length = t.length := by
  rw [coverU, xorL_length, cstream_length hk]; omega
/-- Twice it is as it was. -/
theorem cover_twice (hk : k.length = 240) (t : List UInt8) : coverU k s (coverU k s t) = t := by
  have h := cover_length (s := s) hk t
  unfold coverU at h ⊢
  rw [h]
  exact xor_back (by rw [cstream_length hk]; omega)
theorem xorL_take (a b : List UInt8) (n : Nat) : (xorL a b).take n = xorL (a.take n) (b.take n) := by
  unfold xorL
  rw [List.take_zipWith]
theorem cover_first (hk : k.length = 240) (t : List UInt8) {n : Nat} (h : n ≤ t.length) : coverU k s (t.take n) = (coverU k s t).take n := by
  unfold coverU
  rw [xorL_take, cstream_first hk h]
  congr 2
  rw [List.length_take]
  omega
end

/-- 0 .. 0, 255 and 1. -/
theorem cplus_alive : cplusU (List.replicate 15 0 ++ [255]) 1 = List.replicate 14 0 ++ [1, 0] := by decide +kernel

end Go.Proofs.YtacbpdampdikjaaDoor

/-
  Sealed texts, on lists. No program is named here.
-/
namespace Go.Proofs.YtacbpdampdikjaaDoor
open Go.RowKit

def sealB : List UInt8 := [115, 101, 97, 108]
def tagB : List UInt8 := [116, 97, 103]
/-- The text, hidden by the key that the box's key and "seal" make. -/
def bhideU (key s t : List UInt8) : List UInt8 := coverU (akeysU (deriveU key sealB)) s t
/-- What is ahead of the tag. -/
def baheadU (key s t : List UInt8) : List UInt8 := s ++ bhideU key s t
def btagU (key b : List UInt8) : List UInt8 := macU (deriveU key tagB) b
def boxU (key s t : List UInt8) : List UInt8 := baheadU key s t ++ btagU key (baheadU key s t)
/-- Whether the last 32 bytes are the tag of what is ahead. -/
def bokU (key b : List UInt8) : Bool := sameL (b.drop (b.length - 32)) (btagU key (b.take (b.length - 32)))
def bopenU (key b : List UInt8) : List UInt8 := bhideU key (b.take 16) ((b.take (b.length - 32)).drop 16)

variable {key s t b : List UInt8}
theorem bkeys_length (l : List UInt8) : (akeysU (deriveU key l)).length = 240 := akeys_length (deriveU_length _ _)
theorem bhide_length : (bhideU key s t).length = t.length := cover_length (bkeys_length _) _
theorem bahead_length : (baheadU key s t).length = s.length + t.length := by rw [baheadU, List.length_append, bhide_length]
theorem btag_length : (btagU key b).length = 32 := macU_length _ _
theorem box_length : (boxU key s t).length = s.length + t.length + 32 := by rw [boxU, List.length_append, bahead_length, btag_length]
theorem box_ahead : (boxU key s t).take ((boxU key s t).length - 32) = baheadU key s t := by
  rw [box_length, show s.length + t.length + 32 - 32 = (baheadU key s t).length by rw [bahead_length]; omega, boxU, List.take_left]
theorem box_tag : (boxU key s t).drop ((boxU key s t).length - 32) = btagU key (baheadU key s t) := by
  rw [box_length, show s.length + t.length + 32 - 32 = (baheadU key s t).length by rw [bahead_length]; omega, boxU, List.drop_left]
theorem box_ok : bokU key (boxU key s t) = true := by
  rw [bokU, box_ahead, box_tag]; exact sameL_self _
theorem box_back (hs : s.length = 16) : bopenU key (boxU key s t) = t := by
  have h1 : (boxU key s t).take 16 = s := by
    rw [boxU, baheadU, List.append_assoc, ← hs, List.take_left]
  rw [bopenU, h1, box_ahead, show (baheadU key s t).drop 16 = bhideU key s t by rw [baheadU, ← hs, List.drop_left]]
  exact cover_twice (bkeys_length _) t

end Go.Proofs.YtacbpdampdikjaaDoor

namespace Go.Proofs.YtacbpdampdikjaaDoor

def sealT : ByteArray := ⟨#[115, 101, 97, 108]⟩
def tagT : ByteArray := ⟨#[116, 97, 103]⟩

end Go.Proofs.YtacbpdampdikjaaDoor

namespace Go.Proofs.YtacbpdampdikjaaDoor
open Go.RowKit

theorem bbelow_any (B bk n c : Nat) (A : Option Addr) (ks : List UInt8) (s : ByteArray) (w : World) (hk : Rd w B A n (Byt ks)) (hko : SlOK A n c) (hn : n ≤ 1099511627776) (hs : s.size ≤ 1073741824)
    (hcell : w.cell? ⟨bk, 0, none⟩ = some (.slice A n c)) (hB : B ≤ w.heap.size) (hK : KsAt w) :
    Calls Tryd.prog 21 #[.string s, .pointer (some ⟨bk, 0, none⟩)] w (NewR w (deriveU ks s.data.toList)) := by
  have h := derive_any B n c A ks s w hk hko hn hs hB hK
  clear hk
  generalize deriveU ks s.data.toList = L at h ⊢
  go_enter Tryd.func21, Tryd.ntmps21
  go_wp2_with fail
  refine h.mono ?_
  rintro e w1 ⟨A1, c1, rfl, hr1, ho1, hb1⟩
  go_wp2
  go_ret
  exact ⟨A1, c1, rfl, hr1, ho1, hb1⟩

set_option maxRecDepth 4096 in
set_option maxHeartbeats 800000 in
theorem bkeys_any (B n c : Nat) (A : Option Addr) (ks : List UInt8) (w : World) (hk : Rd w B A n (Byt ks)) (hko : SlOK A n c) (hn : n ≤ 1099511627776) (hB : B ≤ w.heap.size) (hK : KsAt w) :
    Calls Tryd.prog 9 #[.slice A n c] w (fun e w' => ∃ A1 c1 A2 c2, e = .returned (.tuple #[.slice A1 32 c1, .slice A2 32 c2]) ∧ Rd w' w'.heap.size A1 32 (Byt (deriveU ks sealB)) ∧ SlOK A1 32 c1 ∧ Rd w' w'.heap.size A2 32 (Byt (deriveU ks tagB)) ∧ SlOK A2 32 c2 ∧ Below w.heap.size w w') := by
  have hmf : ∀ (fn : Fn) (first cap : Array Value) (w : World), (Instr.makeFunc fn first cap).run Tryd.prog w = .ok (.func fn first cap) w := fun _ _ _ _ => rfl
  have hb1 : Below w.heap.size w (w.alloc (.cells #[.slice A n c] 22)) := (Below.refl _ _).alloc (Nat.le_refl _) _
  have hc1 : (w.alloc (.cells #[.slice A n c] 22)).cell? ⟨w.heap.size, 0, none⟩ = some (.slice A n c) := cell_new1 w _ _
  have hz : w.heap.size < (w.alloc (.cells #[.slice A n c] 22)).heap.size := by simp
  have HL1 := Lib.hid (deriveU_length ks sealB)
  have HL2 := Lib.hid (deriveU_length ks tagB)
  have Hc : ∀ s : ByteArray, s.size ≤ 1073741824 → ∀ W, Below (w.alloc (.cells #[.slice A n c] 22)).heap.size (w.alloc (.cells #[.slice A n c] 22)) W →
      Calls Tryd.prog 21 #[.string s, .pointer (some ⟨w.heap.size, 0, none⟩)] W (NewR W (deriveU ks s.data.toList)) := fun s hs W hb =>
    bbelow_any B w.heap.size n c A ks s W ((hk.below (hb1.mono hB)).below (hb.mono (Nat.le_trans hB hb1.size))) hko hn hs ((hb.cell hz).trans hc1) (Nat.le_trans hB (Nat.le_trans hb1.size hb.size)) ((hK.below hb1).below hb)
  have C1 := Hc sealT (by decide)
  have C2 := Hc tagT (by decide)
  rw [show sealT.data.toList = sealB from rfl] at C1
  rw [show tagT.data.toList = tagB from rfl] at C2
  unfold sealT at C1
  unfold tagT at C2
  generalize deriveU ks sealB = L1 at HL1 C1 ⊢
  generalize deriveU ks tagB = L2 at HL2 C2 ⊢
  unfold NewR at C1 C2
  rw [HL1.out] at C1
  rw [HL2.out] at C2
  have Hb1 := Lib.hid hb1
  clear Hc hk hK hb1 hc1
  go_enter Tryd.func9, Tryd.ntmps9
  go_wp2_with fail
  generalize w.alloc (.cells #[.slice A n c] 22) = w1 at C1 C2 Hb1 hz ⊢
  refine (C1 w1 (Below.refl _ _)).mono ?_
  rintro e w2 ⟨A1, c1, rfl, hr1, ho1, hb2⟩
  have Hr1 := Lib.hid hr1
  have Ho1 := Lib.hid ho1
  have Hb2 := Lib.hid hb2
  clear hr1 ho1 hb2
  go_wp2_with fail
  refine (C2 w2 Hb2.out).mono ?_
  rintro e w3 ⟨A2, c2, rfl, hr2, ho2, hb3⟩
  have Hr2 := Lib.hid hr2
  have Ho2 := Lib.hid ho2
  have Hr12 := Lib.hid ((Hr1.out.below hb3).wider hb3.size)
  have Hb3 := Lib.hid (Hb1.out.trans ((bon Hb2.out hb3).mono (Nat.le_of_lt hz)))
  clear hr2 ho2 hb3
  go_wp2
  go_ret2
  exact ⟨A1, c1, A2, c2, rfl, Hr12.out, Ho1.out, Hr2.out, Ho2.out, Hb3.out⟩

end Go.Proofs.YtacbpdampdikjaaDoor

namespace Go.Proofs.YtacbpdampdikjaaDoor
open Go.RowKit

theorem arr16 : ArrT Tryd.prog 49 5 .u8 16 := ⟨by kernel_rfl, by kernel_rfl, by kernel_rfl⟩
theorem zero16 : (Tryd.prog.info? 49).map (fun i => (i.zero, i.size)) = some (some (.agg (Nums .u8 (Zs 16))), 16) := by kernel_rfl
theorem info_u8n : (Tryd.prog.info? 5).map (·.size) = some 1 := by kernel_rfl

theorem abon {w a b : World} (h : Below w.heap.size w a) (hb : Below a.heap.size a b) : Below w.heap.size w b := h.trans (hb.mono h.size)

/-- What is filled in: so many of L, and behind them those of M. -/
theorem afill_step {L M : List Nat} {k x : Nat} (hx : L[k]? = some x) (hm : k < M.length) : (L.take k ++ M.drop k).set k x = L.take (k + 1) ++ M.drop (k + 1) := by
  obtain ⟨h1, h2⟩ := List.getElem?_eq_some_iff.1 hx
  rw [← h2]
  exact afill_set h1 hm
theorem afill_at {L M : List Nat} {k x : Nat} (hx : M[k]? = some x) (hl : k ≤ L.length) : (L.take k ++ M.drop k)[k]? = some x := by
  obtain ⟨h1, h2⟩ := List.getElem?_eq_some_iff.1 hx
  rw [fill_get h1 hl, h2]
theorem asub_at (f : UInt8 → UInt8) {s : List UInt8} {k : Nat} (h : k < s.length) : ∃ x : UInt8, s[k]? = some x ∧ (asubB f s)[k]? = some (f x) :=
  ⟨s[k], List.getElem?_eq_getElem h, by simp [asubB, List.getElem?_eq_getElem h]⟩
theorem aadd_at {s t : List UInt8} {k : Nat} (h : k < s.length) (ht : k < t.length) : ∃ x y : UInt8, s[k]? = some x ∧ t[k]? = some y ∧ (aaddU s t)[k]? = some (x ^^^ y) :=
  ⟨s[k], t[k], List.getElem?_eq_getElem h, List.getElem?_eq_getElem ht, by simp [aaddU, List.getElem?_zipWith, List.getElem?_eq_getElem h, List.getElem?_eq_getElem ht]⟩

end Go.Proofs.YtacbpdampdikjaaDoor

namespace Go.Proofs.YtacbpdampdikjaaDoor
open Go.RowKit

set_option maxHeartbeats 1600000 in
theorem cplus_any (c : List UInt8) (n : Nat) (w : World) (hc : c.length = 16) (hn : n ≤ 65535) :
    Calls Tryd.prog 55 #[.agg (Nums .u8 (abn c)), .int .i64 (n : Int)] w (AnsA w .u8 (abn (cplusU c n))) := by
  have Hc := Lib.hid hc
  have HL : Hid ((abn (cplusU c n)).length = 16) := Lib.hid (by rw [abn_length, cplus_length hc])
  have Hlen : Hid (∀ k, (abn (cD c n k)).length = 16) := Lib.hid (fun k => by rw [abn_length, cD_length, hc])
  have Hn : Hid (∀ k, cN c n k ≤ 65535) := Lib.hid (cN_bound c hn)
  have H0 : Hid (cN c n 0 = n ∧ cD c n 0 = c) := Lib.hid ⟨rfl, rfl⟩
  clear hc hn
  go_enter Tryd.func55, Tryd.ntmps55
  go_wp2_with (refine wp_box_arr (k := .u8) rfl 49 (.tmp 0) rfl (abn c) rfl ?_)
  intro w1 g1 G1 H1 Hb1 Hs1
  go_wp2_with (refine wp_alloc_arr (k := .u8) rfl 49 rfl 16 zero16 ?_)
  intro w2 g2 G2 H2 Hb2 Hs2
  have Hg : Hid (w.heap.size ≤ g1 ∧ w.heap.size ≤ g2 ∧ g1 ≠ g2) := Lib.hid (by have := G1.out; have := G2.out; have := Hs1.out; omega)
  have K1 : Hid (Arr w2 g1 49 .u8 (abn (cD c n 0))) := Lib.hid (H1.out.below Hb2.out H1.out.lt)
  have B2 : Hid (Below w.heap.size w w2) := Lib.hid (abon Hb1.out Hb2.out)
  clear H1 Hb1 Hb2 G1 G2 Hs1 Hs2
  go_wp2
  go_step3
  go_wp2
  go_step3
  go_wp2
  go_loopw [1, 5] (fun u v wr => ∃ (k : Nat) (z : Int), k ≤ 16 ∧ u = .int .i64 ((cN c n k : Nat) : Int) ∧ v = .int .i64 z ∧ Hid (z + (k : Int) = 15) ∧ Hid (Arr wr g1 49 .u8 (abn (cD c n k))) ∧ Hid (Arr wr g2 49 .u8 (Zs 16)) ∧ Hid (Below w.heap.size w wr)) (fun _ v _ => (intOf v + 1).toNat)
  case atStart => exact ⟨0, 15, by omega, by rw [H0.out.1], rfl, Lib.hid rfl, K1, H2, B2⟩
  case round =>
    clear K1 B2 H2
    obtain ⟨k, z, hk, rfl, rfl, Hz, K1, K2, B2⟩ := hrel
    by_cases hlt : k < 16
    · obtain ⟨m, rfl⟩ : ∃ m : Nat, z = (m : Int) := ⟨z.toNat, by have := Hz.out; omega⟩
      have Hm : Hid (15 - k = m) := Lib.hid (by have := Hz.out; omega)
      have hm : m < 16 := by have := Hz.out; omega
      by_cases h0 : cN c n k = 0
      · have Hend := Lib.hid (cD_end Hc.out hk h0)
        rw [h0]
        have K3 : Hid (Arr wr g1 49 .u8 (abn (cplusU c n))) := Lib.hid (by rw [← Hend.out]; exact K1.out)
        clear K1 Hend h0
        go_wp2_with (first
          | refine wp_load_arr arr16 rfl (.tmp 2) rfl rfl K3.out HL.out ?_
          | refine wp_put_arr arr16 rfl (.tmp 4) (.tmp 24) rfl rfl (l' := abn (cplusU c n)) rfl K2.out (Zs_length _) HL.out ?_)
        intro w5 H5 Hm5 Hs5
        go_wp2
        rw [Exit.noGoto_ret]
        exact ret_arr arr16 rfl rfl H5.out HL.out rfl ⟨rfl, B2.out.trans (Hm5.out.below (fun j hj => by have := Hg.out; omega) B2.out.size)⟩
      · have e0 : (((cN c n k : Nat) : Int) == 0) = false := by simp; omega
        obtain ⟨b, h1, h2, h3, h4⟩ := cD_at Hc.out n hlt
        rw [Hm.out] at h1 h2 h4
        have hq := Hn.out k
        have hcell := K1.out.at_ (abn_get h2)
        have hfz := K1.out.frozen m
        have hb := b.toNat_lt
        have Hset : Hid (abn (cD c n (k + 1)) = (abn (cD c n k)).set m (UInt8.ofNat (cN c n k + b.toNat)).toNat) := Lib.hid (by rw [h4]; simp [abn, List.map_set])
        have Hnx := Lib.hid h3
        clear h1 h2 h3 h4 h0
        generalize hqq : cN c n k = q at *
        generalize hbb : b.toNat = p at *
        go_wp2
        go_roundw
        case rel =>
          refine ⟨k + 1, (m : Int) - 1, by omega, by rw [Hnx.out]; rfl, rfl, Lib.hid (by have := Hz.out; omega), Lib.hid ?_, Lib.hid (K2.out.other Hg.out.2.2.symm), Lib.hid (B2.out.setCell Hg.out.1 _)⟩
          rw [Hset.out]
          exact K1.out.put (by rw [u8_of]; rfl)
        case measure => simp [intOf]
    · have hk16 : k = 16 := by omega
      have K3 : Hid (Arr wr g1 49 .u8 (abn (cplusU c n))) := Lib.hid (by have h := K1.out; rw [hk16] at h; exact h)
      have hz : z = -1 := by have := Hz.out; omega
      subst hz
      clear K1 Hz
      go_wp2_with (first
        | refine wp_load_arr arr16 rfl (.tmp 2) rfl rfl K3.out HL.out ?_
        | refine wp_put_arr arr16 rfl (.tmp 4) (.tmp 24) rfl rfl (l' := abn (cplusU c n)) rfl K2.out (Zs_length _) HL.out ?_)
      intro w5 H5 Hm5 Hs5
      go_wp2
      rw [Exit.noGoto_ret]
      exact ret_arr arr16 rfl rfl H5.out HL.out rfl ⟨rfl, B2.out.trans (Hm5.out.below (fun j hj => by have := Hg.out; omega) B2.out.size)⟩

end Go.Proofs.YtacbpdampdikjaaDoor

namespace Go.Proofs.YtacbpdampdikjaaDoor
open Go.RowKit

section
variable {P : Program} {w : World} {g : Nat} {t : TypeId} {k : IntKind}
theorem Nums_list (k : IntKind) (l : List Nat) : Nums k l = (l.map fun (n : Nat) => Value.int k (n : Int)).toArray := rfl
theorem Nums_byt (l : List UInt8) : Nums .u8 (abn l) = (Byt l).toArray := by simp [Nums, abn, Byt]
/-- The part of an array from off on. -/
theorem Arr.range {l ns : List Nat} {off : Nat} (h : Arr w g t k l) (hn : ∀ (j x : Nat), ns[j]? = some x → l[off + j]? = some x) : w.rangeAt g off (ns.map fun (n : Nat) => Value.int k (n : Int)) := by
  intro j v hv
  rw [List.getElem?_map] at hv
  cases hq : ns[j]? with
  | none => rw [hq] at hv; cases hv
  | some x =>
    rw [hq] at hv
    injection hv with hv
    rw [← hv]
    exact h.at_ (hn j x hq)
theorem Arr.there {l : List Nat} {off n : Nat} (h : Arr w g t k l) (hn : off + n ≤ l.length) : w.there g off n := fun j hj => ⟨by rw [h.cell (j := off + j) (by omega)]; rfl, h.frozen _⟩

theorem run_storeCells_arr {l l' : List Nat} (h : Arr w g t k l) (hl : l'.length = l.length) : (storeCells ⟨g, 0, none⟩ (Nums k l').toList).run P w = .ok () (w.setRow g (Nums k l')) := by
  have := run_storeCells_at P g 0 t (Nums k l').toList 0 (Nums k l) w h (by simp [Nums_size, hl]) (fun v hv => (Array.all_eq_true_iff_forall_mem.1 (Nums_one k l')) v (by simpa using hv))
  have e : List.drop l.length (Nums k l).toList = [] := List.drop_of_length_le (by simp [Nums_size])
  simpa [Nums_size, hl, e] using this
theorem run_copy_arr {dT sT ty e : TypeId} (hu : P.underlying dT = some (.slice e)) (hsz : (P.info? e).map (·.size) = some 1) (off dl dc : Nat) (A : Addr) (sl sc : Nat) (l ns : List Nat) (h : Arr w g t k l)
    (hn : ns.length = Nat.min sl dl) (hsrc : ∀ (j x : Nat), ns[j]? = some x → w.cell? (A.add j) = some (.int k (x : Int))) (hfit : off + ns.length ≤ l.length) :
    (Builtin.copy_ #[dT, sT] ty #[.slice (some ⟨g, off, none⟩) dl dc, .slice (some A) sl sc]).run P w = .ok (goInt ns.length) (w.setRow g (Nums k (splice l off ns))) := by
  rw [run_copy_row (P := P) w dT sT ty e g off dl dc A sl sc (Nums k l) t (ns.map fun (n : Nat) => Value.int k (n : Int)) hu hsz h (by simpa using hn) (fun j v hv => ?_) (by simpa [Nums_size] using hfit) (fun v hv => by obtain ⟨n, _, rfl⟩ := List.mem_map.1 hv; rfl)]
  · congr 1
    · simp
    · congr 1
      simp [Nums, splice, List.map_take, List.map_drop]
  · rw [List.getElem?_map] at hv
    cases hq : ns[j]? with
    | none => rw [hq] at hv; cases hv
    | some x =>
      rw [hq] at hv
      injection hv with hv
      rw [← hv]
      exact hsrc j x hq
theorem run_arrayAt {t e : TypeId} {n : Nat} (T : ArrT P t e k n) (A : Option Addr) (len cap : Nat) (h : n ≤ len) (W : World) : (Instr.arrayAt t (.slice A len cap)).run P W = .ok (.pointer A) W := by
  have hn : ¬ len < n := by omega
  simp [Instr.arrayAt, Sem.run_bind, run_underlying T.under, hn]
/-- The address of one. -/
theorem run_indexAt_arr {e : TypeId} {n : Nat} (T : ArrT P t e k n) (hsz : (P.info? e).map (·.size) = some 1) (j : Nat) (z : Int) (hz : z = (j : Int)) (hj : j < n) (W : World) :
    (Instr.indexAt t (.pointer (some ⟨g, 0, none⟩)) (.int .i64 z)).run P W = .ok (.pointer (some ⟨g, j, none⟩)) W := by
  subst hz
  have hs : (sizeOf e).run P W = .ok 1 W := by
    cases hq : P.info? e with
    | none => simp [hq] at hsz
    | some i =>
      have : i.size = 1 := by simpa [hq] using hsz
      simp [sizeOf, typeInfo, hq, this]
  simp [Instr.indexAt, Instr.sureAddr, asIntOf, run_underlying T.under, hs, hj, add_flat, Sem.run_bind]
/-- A slice of an array of one cell each. -/
theorem run_slice_arr {e : TypeId} {n : Nat} (T : ArrT P t e k n) (hsz : (P.info? e).map (·.size) = some 1) (lo hi : Nat) (zl zh : Int) (hzl : zl = (lo : Int)) (hzh : zh = (hi : Int)) (h1 : lo ≤ hi) (h2 : hi ≤ n) (h3 : lo < n) (W : World) :
    (Instr.sliceAt t (.pointer (some ⟨g, 0, none⟩)) (some (.int .i64 zl)) (some (.int .i64 zh)) none).run P W = .ok (.slice (some ⟨g, lo, none⟩) (hi - lo) (n - lo)) W := by
  subst hzl hzh
  have hs : (sizeOf e).run P W = .ok 1 W := by
    cases hq : P.info? e with
    | none => simp [hq] at hsz
    | some i =>
      have : i.size = 1 := by simpa [hq] using hsz
      simp [sizeOf, typeInfo, hq, this]
  have hne : n ≠ lo := by omega
  simp [Instr.sliceAt, Instr.sureAddr, run_underlying T.under, Instr.sliceBounds, run_sliceBound, hs, h1, h2, hne, add_flat, Sem.run_bind]
theorem wp_copy_arr {ops : Array Oper} {rest : List Oper} {o : Oper} {a : Act} {Q : Exit → Act → World → Prop} (hgd : o.guard = none) (d s : Operand) (dT sT : TypeId)
    (ho : o.op = .call { callee := .builtin .copy, args := #[d, s], argTypes := #[dT, sT] }) (e : TypeId) (hu : P.underlying dT = some (.slice e)) (hsz : (P.info? e).map (·.size) = some 1)
    (off dl dc : Nat) (A : Addr) (sl sc : Nat) (hd : a.eval d = .slice (some ⟨g, off, none⟩) dl dc) (hs : a.eval s = .slice (some A) sl sc) (l ns : List Nat) (h : Arr w g t k l)
    (hn : ns.length = Nat.min sl dl) (hsrc : ∀ (j x : Nat), ns[j]? = some x → w.cell? (A.add j) = some (.int k (x : Int))) (hfit : off + ns.length ≤ l.length)
    (hK : ∀ w', Hid (Arr w' g t k (splice l off ns)) → Hid (Moves (fun j => j = g) w w') → Hid (w'.heap.size = w.heap.size) → wpList P ops Q rest (a.put o.dst (goInt ns.length)) w') : wpList P ops Q (o :: rest) a w := by
  refine wpList_plain hgd fun K hKK => ?_
  have hrun := run_copy_arr (P := P) (sT := sT) (ty := o.type) hu hsz off dl dc A sl sc l ns h hn hsrc hfit
  unfold Oper.wp
  simp [execOp, ho, resolve, invoke, builtin, hd, hs, hrun, Result.andThen]
  exact hKK _ _ (hK _ (Lib.hid (h.store_moves _).1) (Lib.hid (h.store_moves _).2.1) (Lib.hid (h.store_moves _).2.2))
theorem step_copy_arr {ops : Array Oper} {o : Oper} {a : Act} {K : Act → World → Prop} {Q : Exit → Act → World → Prop} {E : Prop} (hgd : o.guard = none) (d s : Operand) (dT sT : TypeId)
    (ho : o.op = .call { callee := .builtin .copy, args := #[d, s], argTypes := #[dT, sT] }) (e : TypeId) (hu : P.underlying dT = some (.slice e)) (hsz : (P.info? e).map (·.size) = some 1)
    (off dl dc : Nat) (A : Addr) (sl sc : Nat) (hd : a.eval d = .slice (some ⟨g, off, none⟩) dl dc) (hs : a.eval s = .slice (some A) sl sc) (l ns : List Nat) (h : Arr w g t k l)
    (hn : ns.length = Nat.min sl dl) (hsrc : ∀ (j x : Nat), ns[j]? = some x → w.cell? (A.add j) = some (.int k (x : Int))) (hfit : off + ns.length ≤ l.length)
    (hK : ∀ w', Hid (Arr w' g t k (splice l off ns)) → Hid (Moves (fun j => j = g) w w') → Hid (w'.heap.size = w.heap.size) → K (a.put o.dst (goInt ns.length)) w') :
    if Region.wanted o (yielded ops a.tmps) = true then Oper.wp P o a w K Q else E := by
  have hw : Region.wanted o (yielded ops a.tmps) = true := by simp [Region.wanted, hgd]
  rw [if_pos hw]
  have hrun := run_copy_arr (P := P) (sT := sT) (ty := o.type) hu hsz off dl dc A sl sc l ns h hn hsrc hfit
  unfold Oper.wp
  simp [execOp, ho, resolve, invoke, builtin, hd, hs, hrun, Result.andThen]
  exact hK _ (Lib.hid (h.store_moves _).1) (Lib.hid (h.store_moves _).2.1) (Lib.hid (h.store_moves _).2.2)
end

/-- The column at place c, mixed. -/
theorem amix_at {s : List UInt8} (h : s.length = 16) {c : Nat} (hc : c < 4) : ∃ p q r t : UInt8, (∀ j x : Nat, [p.toNat, q.toNat, r.toNat, t.toNat][j]? = some x → (abn s)[4 * c + j]? = some x) ∧
    (∀ j x : Nat, [(gmixU p q r t).toNat, (gmixU q r t p).toNat, (gmixU r t p q).toNat, (gmixU t p q r).toNat][j]? = some x → (abn (amixU s))[4 * c + j]? = some x) := by
  obtain ⟨a0, a1, a2, a3, b0, b1, b2, b3, c0, c1, c2, c3, d0, d1, d2, d3, rfl⟩ := sixteen h
  match c, hc with
  | 0, _ => exact ⟨a0, a1, a2, a3, fun j x => by rcases j with _ | _ | _ | _ | j <;> simp [abn], fun j x => by rcases j with _ | _ | _ | _ | j <;> simp [abn, amixU]⟩
  | 1, _ => exact ⟨b0, b1, b2, b3, fun j x => by rcases j with _ | _ | _ | _ | j <;> simp [abn], fun j x => by rcases j with _ | _ | _ | _ | j <;> simp [abn, amixU]⟩
  | 2, _ => exact ⟨c0, c1, c2, c3, fun j x => by rcases j with _ | _ | _ | _ | j <;> simp [abn], fun j x => by rcases j with _ | _ | _ | _ | j <;> simp [abn, amixU]⟩
  | 3, _ => exact ⟨d0, d1, d2, d3, fun j x => by rcases j with _ | _ | _ | _ | j <;> simp [abn], fun j x => by rcases j with _ | _ | _ | _ | j <;> simp [abn, amixU]⟩

/-- Several more are filled in. -/
theorem afill_splice {L M ns : List Nat} {off : Nat} (hl : L.length = M.length) (hn : off + ns.length ≤ M.length) (hx : ∀ (j x : Nat), ns[j]? = some x → L[off + j]? = some x) :
    splice (L.take off ++ M.drop off) off ns = L.take (off + ns.length) ++ M.drop (off + ns.length) := by
  unfold splice
  have h1 : (L.take off).length = off := by simp; omega
  have h2 : ns = (L.drop off).take ns.length := by
    apply List.ext_getElem?
    intro j
    rcases Nat.lt_or_ge j ns.length with hj | hj
    · rw [List.getElem?_take_of_lt hj, List.getElem?_drop, hx j ns[j] (List.getElem?_eq_getElem hj), List.getElem?_eq_getElem hj]
    · rw [List.getElem?_eq_none hj, List.getElem?_eq_none (by simp; omega)]
  rw [List.take_append_of_le_length (by omega), List.take_of_length_le (by omega)]
  rw [← List.append_assoc]
  congr 1
  · conv => lhs; rw [h2]
    rw [← List.take_add]
  · rw [List.drop_append, List.drop_of_length_le (by omega), List.nil_append, h1, List.drop_drop]
    congr 1
    omega

end Go.Proofs.YtacbpdampdikjaaDoor
