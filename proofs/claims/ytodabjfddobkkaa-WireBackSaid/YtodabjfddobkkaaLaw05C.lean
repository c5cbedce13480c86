import Derived.Test.YtodabjfddobkkaaLaw05R
import Derived.Test.YtodabjfddobkkaaLaw05W
import Derived.Test.YtodabjfddobkkaaWireRead
import Derived.Test.YtodabjfddobkkaaWireEnd
import Derived.Test.YtodabjfddobkkaaWireNil
import Derived.Test.YtodabjfddobkkaaLaw05A
import Derived.RegionTactic
namespace Go.Proofs.Ytodabjfddobkkaa
open Go.RowKit

/-- What is left of all the bytes behind the first k fields. -/
def restU (fs : List Fld) (k : Nat) : List UInt8 := (fs.drop k).flatMap fldU
theorem restU_zero (fs : List Fld) {n : Nat} (hn : fs.length ≤ n) : restU fs 0 = outU fs n := by
  unfold restU outU
  rw [List.drop_zero, List.take_of_length_le hn]
theorem restU_succ {fs : List Fld} {k : Nat} (hk : k < fs.length) : restU fs k = fldU fs[k] ++ restU fs (k + 1) := by
  unfold restU
  rw [List.drop_eq_getElem_cons hk, List.flatMap_cons]
theorem restU_end {fs : List Fld} {k : Nat} (hk : fs.length ≤ k) : restU fs k = [] := by
  unfold restU
  rw [List.drop_eq_nil_of_le hk]; rfl

theorem read0 (n : Nat) (size : Int) (r : List UInt8) : readU 0 size ⟨UInt8.ofNat n :: r, true⟩ = (n % 256, [], ⟨r, true⟩) := by
  have h := numR_put n 1 (by decide) (by decide) r
  have e : putL n 1 = [UInt8.ofNat n] := rfl
  rw [e] at h
  unfold readU numStep
  rw [if_pos rfl, if_pos rfl]
  rw [show numR 1 (RS.left ⟨UInt8.ofNat n :: r, true⟩) = some (n % 256 ^ 1, r) from h]
theorem read1 (n k : Nat) (h1 : 1 ≤ k) (h8 : k ≤ 8) (r : List UInt8) : readU 1 (k : Int) ⟨putL n k ++ r, true⟩ = (n % 256 ^ k, [], ⟨r, true⟩) := by
  have h := numR_put n k h1 h8 r
  unfold readU numStep
  rw [if_neg (by decide), if_pos rfl, if_pos rfl]
  rw [show numR (k : Int) (RS.left ⟨putL n k ++ r, true⟩) = some (n % 256 ^ k, r) from h]
theorem read2 (b r : List UInt8) (most : Int) (hb : b.length ≤ 300) (hm : 65535 ≤ most) : readU 2 most ⟨rowU b ++ r, true⟩ = (0, b, ⟨r, true⟩) := by
  have h := rowR_row b r most (by omega) (by omega)
  unfold readU rowStep
  rw [if_neg (by decide), if_neg (by decide), if_pos rfl]
  rw [show rowR most (RS.left ⟨rowU b ++ r, true⟩) = some (b, r) from h]

set_option maxRecDepth 100000 in
set_option maxHeartbeats 6400000 in
theorem wireBack_any (B n c : Nat) (A : Option Addr) (fs : List Fld) (text : Bool) (w : World) (h : Flds w B A n fs) (hB : B ≤ w.heap.size) (hn : n ≤ maxLen) :
    Calls Try.prog 5 #[.slice A n c, .bool text] w (Ans w (.bool true)) := by
  have hlt := light_any B n c A fs w h hn
  have ha : ∀ w', Calls Try.prog 7 #[] w' (Ans w' (.bool true)) := alive5_any
  by_cases hl : lightU fs = true
  · rw [hl] at hlt
    have hfl := h.1
    have h40 := (light_yes hl).1
    have hbs := light_bs h hl
    have HL := Lib.hid hl; clear hl
    have Hfl := Lib.hid hfl; clear hfl
    go_enter Try.func5, Try.ntmps5
    go_wp2_with fail
    refine hlt.mono ?_
    rintro e w1 ⟨rfl, hb1⟩
    have hsz1 := hb1.size
    have hnew := wtr_new 5 28 w1
    have hb1' := hb1.alloc hsz1 (.cells #[.slice none 0 0] 28)
    go_wp2
    go_loopw [6] (fun i wr => ∃ (k : Nat) (F : Nat → Prop), k ≤ n ∧ i = .int .i64 k ∧ WtrS 5 wr F w1.heap.size (outU fs k) ∧ Below w.heap.size w wr) (fun i _ => n - (intOf i).toNat)
    case atStart => exact ⟨0, Blk w1.heap.size, Nat.zero_le _, rfl, hnew, hb1'⟩
    case round =>
      obtain ⟨k, F, hk, rfl, hwt, hbr⟩ := hrel
      have hk40 : k * 302 ≤ 12080 := by have := Hfl.out; omega
      have hfew := outU_few hbs k
      by_cases hkn : k < n
      · have hkf : k < fs.length := by rw [Hfl.out]; exact hkn
        have h2 := h.keep (w' := wr) fun _ hp => hbr.cell (by omega)
        obtain ⟨b, o, rfl, hb, c0, c1, c2, c3⟩ := h2.at_ hkf
        have hfok := h2.get hkf
        have hlf := (light_yes HL.out).2 _ (List.getElem_mem hkf)
        have hsucc := outU_succ hkf
        obtain ⟨f, hf⟩ : ∃ f, f = fs[k] := ⟨_, rfl⟩
        rw [← hf] at c0 c1 c2 c3 hfok hlf hsucc
        have hszr := hbr.size
        have hlo := hwt.lo
        have hBb : B ≤ w1.heap.size := by omega
        have hp := write_any F w1.heap.size B (outU fs k) f text wr hwt hfok (by omega) (fun h0 => by
          obtain ⟨b', o', e', hb', _⟩ := hfok.rd.2 h0
          exact hwt.off hBb (fun a ha => by rw [e'] at ha; injection ha with ha; subst ha; exact hb')) hlf (by omega)
        rw [show fieldU f.kind f.size f.num f.bs = fldU f from rfl, ← hsucc] at hp
        clear hsucc hf hlf hwt
        go_wp2_with fail
        refine hp.mono ?_
        rintro e w2 ⟨rfl, F1, hw2, hm2, hF1⟩
        have hb2 : Below w.heap.size w w2 := hbr.trans (hm2.below (fun k hk => by have := (hlo k hk).1; omega) hszr)
        go_wp2
        go_roundw
        case rel => exact ⟨k + 1, F1, by omega, by go_num, hw2, hb2⟩
        case measure => simp [intOf]; omega
      · obtain rfl : k = n := by omega
        have ho := wout_any F _ _ wr hwt (by omega)
        have hszr := hbr.size
        clear hwt
        go_wp2_with fail
        refine ho.mono ?_
        rintro e w2 ⟨A2, c2, rfl, hown2, hb2⟩
        have hrd := wread_any w2.heap.size (outU fs k).length c2 A2 (outU fs k) w2 (Rd.of_own hown2) (SlOK.of_own hown2) (Nat.le_refl _) (by omega)
        have hb2' := hbr.trans (hb2.mono hszr)
        obtain ⟨m2, hm2⟩ : ∃ m2, m2 = (outU fs k).length := ⟨_, rfl⟩
        rw [← hm2] at hrd ⊢
        clear hown2 hm2 hfew
        go_wp2_with fail
        refine hrd.mono ?_
        rintro e w3 ⟨br, rfl, hbr3, hs3, hb3⟩
        have hb3' := hb2'.trans (hb3.mono hb2'.size)
        have hlo : w.heap.size ≤ br := by have := hb2'.size; omega
        rw [← restU_zero fs (by rw [Hfl.out]; omega)] at hs3
        clear hrd ho
        go_wp2
        go_loopw [8] (fun i wr => ∃ j : Nat, j ≤ k ∧ i = .int .i64 j ∧ RdrS wr br ⟨restU fs j, true⟩ ∧ Below w.heap.size w wr) (fun i _ => k - (intOf i).toNat)
        case atStart => exact ⟨0, Nat.zero_le _, rfl, hs3, hb3'⟩
        case round =>
          obtain ⟨j, hj, rfl, hrs, hbw⟩ := hrel
          by_cases hjk : j < k
          · have hjf : j < fs.length := by rw [Hfl.out]; exact hjk
            have h2 := h.keep (w' := wr) fun _ hp => hbw.cell (by omega)
            obtain ⟨b, o, rfl, hb, c0, c1, c2, c3⟩ := h2.at_ hjf
            have hfok := h2.get hjf
            have hlf := (light_yes HL.out).2 _ (List.getElem_mem hjf)
            have hrest := restU_succ hjf
            have hbf := hbs _ (List.getElem_mem hjf)
            obtain ⟨f, hf⟩ : ∃ f, f = fs[j] := ⟨_, rfl⟩
            rw [← hf] at c0 c1 c2 c3 hfok hlf hrest hbf
            obtain ⟨kind, size, num, fA, fm, fc, bs⟩ := f
            obtain ⟨hkd, hsd, hnum, hok, hrd⟩ := hfok
            simp only at c0 c1 c2 c3 hkd hsd hnum hok hrd hbf
            simp only [lightF, Bool.and_eq_true, decide_eq_true_eq] at hlf
            obtain ⟨⟨l0, l2⟩, l3⟩ := hlf
            have hszr := hbw.size
            have hR : ∀ (num' : Nat) (size' : Int) (W : World), Below wr.heap.size wr W → num' < 18446744073709551616 → (kind ≤ 1 → (readU kind size' ⟨restU fs j, true⟩).1 = num') → (kind = 2 → (readU kind size' ⟨restU fs j, true⟩).2.1 = bs) → (readU kind size' ⟨restU fs j, true⟩).2.2 = ⟨restU fs (j + 1), true⟩ →
                Calls Try.prog 15 #[.pointer (some ⟨br, 0, none⟩), .int .i64 kind, .int .i64 size', .bool text, .agg #[.int .i64 kind, .int .i64 size, .int .u64 (num' : Int), .slice fA fm fc]] W fun e w' => e = .returned (.bool true) ∧ RdrS w' br ⟨restU fs (j + 1), true⟩ ∧ Below w.heap.size w w' := by
              intro num' size' W hW hn' h1 h2 h3
              have hp := read_any B br kind size' text ⟨restU fs j, true⟩ ⟨kind, size, num', fA, fm, fc, bs⟩ W (hrs.below hW) ⟨hkd, hsd, hn', hok, hrd.keep fun p hp => hW.cell (by omega)⟩ (by have := hW.size; omega) (fun h0 => by
                obtain ⟨b', o', e', hb', _⟩ := hrd.2 h0
                intro a ha hf
                rw [e'] at ha
                injection ha with ha
                subst ha
                unfold Blk at hf
                simp at hf
                omega) ⟨l0, l2⟩ h1 h2
              refine hp.mono ?_
              rintro e w' ⟨rfl, hs', hm'⟩
              rw [h3] at hs'
              have hWb := hbw.trans (hW.mono hszr)
              exact ⟨rfl, hs', hWb.trans (hm'.below (fun q hq => by unfold Blk at hq; omega) hWb.size)⟩
            have hrest' : restU fs j = fieldU kind size num bs ++ restU fs (j + 1) := hrest
            have hBW : ∀ O : Obj, Below wr.heap.size wr (wr.alloc O) := fun O => (Below.refl _ _).alloc (Nat.le_refl _) _
            clear hf hrest h2 hkd hok hrd
            rcases (show kind = 0 ∨ kind = 1 ∨ kind = 2 by omega) with rfl | rfl | rfl
            · have hq := fun (O : Obj) (size' : Int) => hR (num % 256) size' (wr.alloc O) (hBW O) (by omega) (fun _ => by rw [hrest']; exact congrArg (·.1) (read0 num size' _)) (fun e => by cases e) (by rw [hrest']; exact congrArg (·.2.2) (read0 num size' _))
              have hcast : ((num % 256 : Nat) : Int) = (num : Int) % 256 := by omega
              simp only [hcast] at hq
              clear hR hrest' hBW hcast
              have Hnum := Lib.hid hnum; clear hnum
              go_wp2_with fail
              all_goals
                refine (hq _ _).mono ?_
                rintro e w4 ⟨rfl, hs4, hb4⟩
                go_wp2
                go_roundw
                case rel => exact ⟨j + 1, by omega, by go_num, hs4, hb4⟩
                case measure => simp [intOf]; omega
            · by_cases hs1 : 1 ≤ size ∧ size ≤ 8
              · obtain ⟨sz, rfl⟩ := Int.eq_ofNat_of_zero_le (show 0 ≤ size by omega)
                have hput : fieldU 1 (sz : Int) num bs = putL num sz := by
                  show putR num (sz : Int) = _
                  rw [putR, if_pos hs1, Int.toNat_natCast]
                rw [hput] at hrest'
                have hq := fun (O : Obj) => hR (num % 256 ^ sz) sz (wr.alloc O) (hBW O) (Nat.lt_of_le_of_lt (Nat.mod_le _ _) hnum) (fun _ => by rw [hrest']; exact congrArg (·.1) (read1 num sz (by omega) (by omega) _)) (fun e => by cases e) (by rw [hrest']; exact congrArg (·.2.2) (read1 num sz (by omega) (by omega) _))
                have hqd := fun (O : Obj) => hR (num % 256 ^ sz) sz (wr.alloc O).drew (hBW O).drew (Nat.lt_of_le_of_lt (Nat.mod_le _ _) hnum) (fun _ => by rw [hrest']; exact congrArg (·.1) (read1 num sz (by omega) (by omega) _)) (fun e => by cases e) (by rw [hrest']; exact congrArg (·.2.2) (read1 num sz (by omega) (by omega) _))
                clear hR hrest' hBW hput
                by_cases h8 : sz = 8
                · subst h8
                  have hm8 : num % 256 ^ 8 = num := Nat.mod_eq_of_lt (by omega)
                  simp only [hm8] at hq
                  have Hnum := Lib.hid hnum; clear hnum hm8
                  go_wp2_with fail
                  all_goals
                    refine (hq _).mono ?_
                    rintro e w4 ⟨rfl, hs4, hb4⟩
                    go_wp2
                    go_roundw
                    case rel => exact ⟨j + 1, by omega, by go_num, hs4, hb4⟩
                    case measure => simp [intOf]; omega
                · have Hnum := Lib.hid hnum; clear hnum
                  rcases (show sz = 1 ∨ sz = 2 ∨ sz = 3 ∨ sz = 4 ∨ sz = 5 ∨ sz = 6 ∨ sz = 7 by omega) with rfl | rfl | rfl | rfl | rfl | rfl | rfl
                  · have hcast : ((num % 256 ^ 1 : Nat) : Int) = (num : Int) % 256 := by omega
                    simp only [hcast] at hqd
                    clear hcast
                    go_wp2_with fail
                    go_region
                    go_wp2_with fail
                    refine (hqd _).mono ?_
                    rintro e w4 ⟨rfl, hs4, hb4⟩
                    go_wp2
                    go_roundw
                    case rel => exact ⟨j + 1, by omega, by go_num, hs4, hb4⟩
                    case measure => simp [intOf]; omega
                  · have hcast : ((num % 256 ^ 2 : Nat) : Int) = (num : Int) % 65536 := by omega
                    simp only [hcast] at hqd
                    clear hcast
                    go_wp2_with fail
                    go_region
                    go_wp2_with fail
                    refine (hqd _).mono ?_
                    rintro e w4 ⟨rfl, hs4, hb4⟩
                    go_wp2
                    go_roundw
                    case rel => exact ⟨j + 1, by omega, by go_num, hs4, hb4⟩
                    case measure => simp [intOf]; omega
                  · have hcast : ((num % 256 ^ 3 : Nat) : Int) = (num : Int) % 16777216 := by omega
                    simp only [hcast] at hqd
                    clear hcast
                    go_wp2_with fail
                    go_region
                    go_wp2_with fail
                    refine (hqd _).mono ?_
                    rintro e w4 ⟨rfl, hs4, hb4⟩
                    go_wp2
                    go_roundw
                    case rel => exact ⟨j + 1, by omega, by go_num, hs4, hb4⟩
                    case measure => simp [intOf]; omega
                  · have hcast : ((num % 256 ^ 4 : Nat) : Int) = (num : Int) % 4294967296 := by omega
                    simp only [hcast] at hqd
                    clear hcast
                    go_wp2_with fail
                    go_region
                    go_wp2_with fail
                    refine (hqd _).mono ?_
                    rintro e w4 ⟨rfl, hs4, hb4⟩
                    go_wp2
                    go_roundw
                    case rel => exact ⟨j + 1, by omega, by go_num, hs4, hb4⟩
                    case measure => simp [intOf]; omega
                  · have hcast : ((num % 256 ^ 5 : Nat) : Int) = (num : Int) % 1099511627776 := by omega
                    simp only [hcast] at hqd
                    clear hcast
                    go_wp2_with fail
                    go_region
                    go_wp2_with fail
                    refine (hqd _).mono ?_
                    rintro e w4 ⟨rfl, hs4, hb4⟩
                    go_wp2
                    go_roundw
                    case rel => exact ⟨j + 1, by omega, by go_num, hs4, hb4⟩
                    case measure => simp [intOf]; omega
                  · have hcast : ((num % 256 ^ 6 : Nat) : Int) = (num : Int) % 281474976710656 := by omega
                    simp only [hcast] at hqd
                    clear hcast
                    go_wp2_with fail
                    go_region
                    go_wp2_with fail
                    refine (hqd _).mono ?_
                    rintro e w4 ⟨rfl, hs4, hb4⟩
                    go_wp2
                    go_roundw
                    case rel => exact ⟨j + 1, by omega, by go_num, hs4, hb4⟩
                    case measure => simp [intOf]; omega
                  · have hcast : ((num % 256 ^ 7 : Nat) : Int) = (num : Int) % 72057594037927936 := by omega
                    simp only [hcast] at hqd
                    clear hcast
                    go_wp2_with fail
                    go_region
                    go_wp2_with fail
                    refine (hqd _).mono ?_
                    rintro e w4 ⟨rfl, hs4, hb4⟩
                    go_wp2
                    go_roundw
                    case rel => exact ⟨j + 1, by omega, by go_num, hs4, hb4⟩
                    case measure => simp [intOf]; omega
              · have hput : fieldU 1 size num bs = [] := by
                  show putR num size = _
                  rw [putR, if_neg hs1]
                rw [hput, List.nil_append] at hrest'
                rw [hrest'] at hrs
                clear hR hrest' hBW hput
                rcases (show size < 1 ∨ (1 ≤ size ∧ 8 < size) by omega) with g1 | ⟨g0, g1⟩
                all_goals
                  have hs4 := hrs.alloc (.cells #[.int .i64 1, .int .i64 size, .int .u64 (num : Int), .slice fA fm fc] 32)
                  have hb4 := hbw.alloc hszr (.cells #[.int .i64 1, .int .i64 size, .int .u64 (num : Int), .slice fA fm fc] 32)
                  have Hnum := Lib.hid hnum; clear hnum hrs
                  go_wp2
                  go_roundw
                  case rel => exact ⟨j + 1, by omega, by go_num, hs4, hb4⟩
                  case measure => simp [intOf]; omega
            · have hmx : max size 65535 = 65535 ∨ (max size 65535 = size ∧ 65535 < size) := by omega
              have hrow : fieldU 2 size num bs = rowU bs := rfl
              rw [hrow] at hrest'
              have hq := fun (O : Obj) (size' : Int) (hs' : 65535 ≤ size') => hR num size' (wr.alloc O) (hBW O) hnum (fun e => by omega) (fun _ => by rw [hrest']; exact congrArg (·.2.1) (read2 bs _ size' hbf hs')) (by rw [hrest']; exact congrArg (·.2.2) (read2 bs _ size' hbf hs'))
              clear hR hrest' hBW hrow
              have Hnum := Lib.hid hnum; clear hnum
              by_cases hs5 : 65535 ≤ size
              · go_wp2_with fail
                all_goals
                  refine (hq _ _ (by omega)).mono ?_
                  rintro e w4 ⟨rfl, hs4, hb4⟩
                  go_wp2
                  go_roundw
                  case rel => exact ⟨j + 1, by omega, by go_num, hs4, hb4⟩
                  case measure => simp [intOf]; omega
              · go_wp2_with fail
                all_goals
                  refine (hq _ _ (by omega)).mono ?_
                  rintro e w4 ⟨rfl, hs4, hb4⟩
                  go_wp2
                  go_roundw
                  case rel => exact ⟨j + 1, by omega, by go_num, hs4, hb4⟩
                  case measure => simp [intOf]; omega
          · have hend : endOf ⟨restU fs j, true⟩ = 0 := by
              rw [restU_end (by rw [Hfl.out]; omega)]; rfl
            have hwE : ∀ w', RdrS w' br ⟨restU fs j, true⟩ → Calls Try.prog 18 #[.pointer (some ⟨br, 0, none⟩)] w' fun e w'' => e = .returned (.int .i64 0) ∧ w'' = w' := fun w' hs => by
              have := wend_any br _ w' hs
              rwa [hend] at this
            have HE := Lib.hid hwE; clear hwE
            clear hend
            go_wp2_with fail
            refine (wbyte_nil 1 wr).mono ?_
            rintro e w4 ⟨rfl, hb4⟩
            have hs4 := hrs.below hb4
            have hbw4 := hbw.trans (hb4.mono hbw.size)
            clear hrs
            go_wp2_with fail
            refine (wtext_nil ⟨#[97]⟩ w4 (by decide)).mono ?_
            rintro e w5 ⟨rfl, hb5⟩
            have he5 := HE.out w5 (hs4.below hb5)
            have hbw5 := hbw4.trans (hb5.mono hbw4.size)
            clear hs4
            go_wp2_with fail
            refine he5.mono ?_
            rintro e w6 ⟨rfl, rfl⟩
            go_wp2_with fail
            refine (wout_nil _).mono ?_
            rintro e w7 ⟨rfl, rfl⟩
            go_wp2_with fail
            refine (wrbyte_nil _).mono ?_
            rintro e w8 ⟨rfl, hb8⟩
            have hbw8 := hbw5.trans (hb8.mono hbw5.size)
            go_wp2_with fail
            refine (wrnum_nil 2 _).mono ?_
            rintro e w9 ⟨rfl, hb9⟩
            have hbw9 := hbw8.trans (hb9.mono hbw8.size)
            go_wp2_with fail
            refine (wrrow_nil 9 _).mono ?_
            rintro e w10 ⟨rfl, hb10⟩
            have hbw10 := hbw9.trans (hb10.mono hbw9.size)
            go_wp2_with fail
            refine (wleft_nil _).mono ?_
            rintro e w11 ⟨rfl, rfl⟩
            go_wp2_with fail
            refine (wfault_nil _).mono ?_
            rintro e w12 ⟨rfl, rfl⟩
            go_wp2_with fail
            refine (wend_nil _).mono ?_
            rintro e w13 ⟨rfl, rfl⟩
            go_wp2_with fail
            refine (ha _).mono ?_
            rintro e w14 ⟨rfl, hb14⟩
            have hbw14 := hbw10.trans (hb14.mono hbw10.size)
            go_wp2
            go_ret
            exact ⟨rfl, hbw14⟩
  · have hf : lightU fs = false := by simpa using hl
    rw [hf] at hlt
    clear hl hf
    go_enter Try.func5, Try.ntmps5
    go_wp2_with fail
    refine hlt.mono ?_
    rintro e w1 ⟨rfl, hb1⟩
    go_wp2_with fail
    refine (ha _).mono ?_
    rintro e w2 ⟨rfl, hb2⟩
    go_wp2
    go_ret
    exact ⟨rfl, bon hb1 hb2⟩

end Go.Proofs.Ytodabjfddobkkaa
