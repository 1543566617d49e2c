/-
  Formats: the turns that look for the last slash.
  Formats: the turns that exchange letters.
  Formats: one text exchanged for another.
  Formats: texts cut at each byte of a kind, as strings.Split cuts them; a text cut at its first colon.
  Formats: what makes a turn that exchanges; the turn that counts.
-/
import Derived.Test.YtlfcjcaofhcfnaaGreatDoorGE
import Derived.Test.YtlfcjcaofhcfnaaGreatDoorShelf
import Derived.Test.YtlfcjcaofhcfnaaGreatDoorGC
import Derived.Lib.LastIndexByte
import Derived.Laws.IdiomStrings
import Derived.Lib.BufferMore
import Derived.Lib.Index
import Derived.Lib.SplitLaws
import Derived.Lib.CountLaws
namespace Go.Proofs.YtlfcjcaofhcfnaaGreatDoor
open Go.RowKit
set_option linter.unusedVariables false
set_option maxRecDepth 20000

theorem slash_in (l : List UInt8) : -1 ≤ slashE l ∧ slashE l < (l.length : Int) := by
  have hsz : (str l).size = l.length := rfl
  rcases Lib.lastIndexByte_spec (str l) 47 with ⟨h1, _⟩ | ⟨i, h1, h2, _⟩
  · have e : slashE l = -1 := h1
    omega
  · have e : slashE l = i := h2
    omega
set_option maxHeartbeats 1000000 in
theorem base_any (l : List UInt8) (hl : l.length ≤ 2147483647) (w : World) : Calls Tryz.prog 36 #[.string (str l)] w fun e w' => e = .returned (.string (str (baseF l))) ∧ Below w.heap.size w w' := by
  have HL := hidK fun W => Tryz.strings_LastIndexByte (str l) 47 (by rw [str_size]; omega) W
  have hE : Lib.lastIndexByte (str l) 47 = slashE l := rfl
  rw [hE] at HL
  obtain ⟨h1, h2⟩ := slash_in l
  obtain ⟨j, hj⟩ : ∃ j : Nat, slashE l = (j : Int) - 1 := ⟨(slashE l + 1).toNat, by omega⟩
  have hd := str_dropF l j
  have hzs : (str l).size = l.length := rfl
  have HR : Hid (baseF l = l.drop j) := by show _ = _; unfold baseF; rw [hj]; congr 1; omega
  rw [hj] at HL h1 h2
  obtain ⟨z, hz⟩ : ∃ z, str l = z := ⟨_, rfl⟩
  obtain ⟨y, hy⟩ : ∃ y, str (l.drop j) = y := ⟨_, rfl⟩
  have HY := hidK hy
  rw [hz] at HL hd hzs ⊢
  rw [hy, hzs] at hd
  obtain ⟨n, hn⟩ : ∃ n, l.length = n := ⟨_, rfl⟩
  rw [hn] at hl h2 hzs hd
  clear hz hy hn hE hj
  go_enter Tryz.func36, Tryz.ntmps36
  go_wp2_with (go_at_call 80; refine (HL.out _).mono ?_; rintro x w1 ⟨rfl, rfl⟩)
  all_goals go_ret
  all_goals exact ⟨by rw [HR.out, HY.out]; rfl, by first | exact Below.refl _ _ | exact (Below.refl _ _).drew⟩
set_option maxHeartbeats 1000000 in
theorem folder_any (l : List UInt8) (hl : l.length ≤ 2147483647) (w : World) : Calls Tryz.prog 37 #[.string (str l)] w fun e w' => e = .returned (.string (str (folderF l))) ∧ Below w.heap.size w w' := by
  have HL := hidK fun W => Tryz.strings_LastIndexByte (str l) 47 (by rw [str_size]; omega) W
  have hE : Lib.lastIndexByte (str l) 47 = slashE l := rfl
  rw [hE] at HL
  obtain ⟨h1, h2⟩ := slash_in l
  have hzs : (str l).size = l.length := rfl
  have HF : Hid (folderF l = if slashE l = -1 then [46] else if slashE l = 0 then [47] else l.take (slashE l).toNat) := rfl
  obtain ⟨j, hj⟩ : ∃ j, slashE l = j := ⟨_, rfl⟩
  rw [hj] at HL h1 h2 HF
  have htk : ∀ k, (str l).extract 0 k = str (l.take k) := str_takeF l
  obtain ⟨z, hz⟩ : ∃ z, str l = z := ⟨_, rfl⟩
  rw [hz] at HL hzs htk ⊢
  obtain ⟨n, hn⟩ : ∃ n, l.length = n := ⟨_, rfl⟩
  rw [hn] at hl h2 hzs
  clear hz hn hE hj
  by_cases hm : j = -1
  · subst hm
    have HR : Hid (folderF l = [46]) := HF.out
    clear HF htk
    go_enter Tryz.func37, Tryz.ntmps37
    go_wp2_with (go_at_call 80; refine (HL.out _).mono ?_; rintro x w1 ⟨rfl, rfl⟩)
    all_goals go_ret
    all_goals exact ⟨by rw [HR.out]; rfl, by first | exact Below.refl _ _ | exact (Below.refl _ _).drew⟩
  by_cases h0 : j = 0
  · subst h0
    have HR : Hid (folderF l = [47]) := HF.out
    clear HF htk
    go_enter Tryz.func37, Tryz.ntmps37
    go_wp2_with (go_at_call 80; refine (HL.out _).mono ?_; rintro x w1 ⟨rfl, rfl⟩)
    all_goals go_ret
    all_goals exact ⟨by rw [HR.out]; rfl, by first | exact Below.refl _ _ | exact (Below.refl _ _).drew⟩
  obtain ⟨k, rfl⟩ : ∃ k : Nat, j = (k : Int) := ⟨j.toNat, by omega⟩
  have HR : Hid (folderF l = l.take k) := by show _ = _; rw [HF.out, if_neg hm, if_neg h0]; rfl
  have hy := htk k
  obtain ⟨y, hyy⟩ : ∃ y, str (l.take k) = y := ⟨_, rfl⟩
  rw [hyy] at hy
  have HY := hidK hyy
  clear HF htk hyy
  go_enter Tryz.func37, Tryz.ntmps37
  go_wp2_with (go_at_call 80; refine (HL.out _).mono ?_; rintro x w1 ⟨rfl, rfl⟩)
  all_goals go_ret
  all_goals exact ⟨by rw [HR.out, HY.out]; rfl, by first | exact Below.refl _ _ | exact (Below.refl _ _).drew⟩
end Go.Proofs.YtlfcjcaofhcfnaaGreatDoor

namespace Go.Proofs.YtlfcjcaofhcfnaaGreatDoor
open Go.RowKit
set_option linter.unusedVariables false
set_option maxRecDepth 20000

theorem List.set_getElem_self' {α : Type} {l : List α} {k : Nat} {a : α} (h : l[k]? = some a) : l.set k a = l := by
  obtain ⟨h1, h2⟩ := List.getElem?_eq_some_iff.1 h
  subst h2
  exact List.set_getElem_self h1
theorem xor_bits (c : UInt8) : bits .xor .u8 (bits .xor .u8 (c.toNat : Int) 97) 65 = ((c ^^^ 97 ^^^ 65).toNat : Int) := by
  have key : ∀ n : Fin 256, bits .xor .u8 (bits .xor .u8 ((UInt8.ofNat n.val).toNat : Int) 97) 65 = ((UInt8.ofNat n.val ^^^ 97 ^^^ 65).toNat : Int) := by decide +kernel
  have h := key ⟨c.toNat, c.toNat_lt⟩
  rwa [show UInt8.ofNat c.toNat = c from UInt8.ofNat_toNat] at h
/-- Bytes in a block of which nothing is frozen. -/
structure YRow (w : World) (g : Nat) (l : List UInt8) : Prop where
  blk : ∃ (arr : Array Value) (fr : Nat), w.heap[g]? = some (.cells arr 5 (fr, fr + 1)) ∧ l.length ≤ fr ∧ l.length ≤ arr.size ∧ ∀ (j : Nat) c, l[j]? = some c → arr[j]? = some (.int .u8 (c.toNat : Int))
theorem YRow.cell {w : World} {g : Nat} {l : List UInt8} (h : YRow w g l) {j : Nat} {c : UInt8} (hc : l[j]? = some c) : w.cell? ⟨g, j, none⟩ = some (.int .u8 (c.toNat : Int)) := by
  obtain ⟨arr, fr, h1, _, _, h3⟩ := h.blk
  simp [World.cell?, h1, h3 j c hc]
theorem YRow.free {w : World} {g : Nat} {l : List UInt8} (h : YRow w g l) {j : Nat} (hj : j < l.length) : w.frozen? ⟨g, j, none⟩ = false := by
  obtain ⟨arr, fr, h1, h2, _⟩ := h.blk
  simp [World.frozen?, h1]
  omega
theorem YRow.set {w : World} {g : Nat} {l : List UInt8} (h : YRow w g l) {j : Nat} (hj : j < l.length) (c : UInt8) : YRow (w.setCell ⟨g, j, none⟩ (.int .u8 (c.toNat : Int))) g (l.set j c) := by
  obtain ⟨arr, fr, h1, h2, h4, h3⟩ := h.blk
  refine ⟨_, fr, Lib.heap_setCell_same h1 _, by simpa using h2, by simpa using h4, fun i d hd => ?_⟩
  by_cases e : i = j
  · subst e
    rw [List.getElem?_set_self hj] at hd
    cases hd
    rw [Array.getElem?_setIfInBounds_self_of_lt (by omega)]
  · rw [List.getElem?_set_ne (by omega)] at hd
    rw [Array.getElem?_setIfInBounds_ne (by omega)]
    exact h3 i d hd
theorem YRow.lt {w : World} {g : Nat} {l : List UInt8} (h : YRow w g l) : g < w.heap.size := by
  obtain ⟨arr, fr, h1, _⟩ := h.blk
  exact lt_of_block h1
/-- What '[]byte(text)' leaves. -/
def bytesW (W : World) (z : ByteArray) : World := W.drew.alloc (.cells (bytesRow z (grownCap W z.size 0 5)) 5 ((bytesRow z (grownCap W z.size 0 5)).size, (bytesRow z (grownCap W z.size 0 5)).size + 1))
theorem bytes_row (W : World) (l : List UInt8) : YRow (bytesW W (str l)) W.heap.size l := by
  have hsz : (str l).size = l.length := rfl
  have hlen : l.length ≤ (bytesRow (str l) (grownCap W (str l).size 0 5)).size := by
    unfold bytesRow
    rw [Array.size_append, Array.size_map]
    have : (str l).data.size = l.length := rfl
    omega
  refine ⟨_, _, heap_alloc_new W.drew _, hlen, hlen, fun j c hc => ?_⟩
  obtain ⟨h1, h2⟩ := List.getElem?_eq_some_iff.1 hc
  rw [bytesRow_at (str l) _ j h1, ← h2]
  rfl
theorem bytes_below (W : World) (z : ByteArray) : Below W.heap.size W (bytesW W z) := ((Below.refl _ W).drew).alloc (Nat.le_refl _) _
theorem letters_snoc (q : UInt8 → Bool) (l : List UInt8) (k : Nat) (c : UInt8) (hc : l[k]? = some c) : (lettersF q (l.take k) ++ l.drop k).set k (if q c then c ^^^ 97 ^^^ 65 else c) = lettersF q (l.take (k + 1)) ++ l.drop (k + 1) := by
  obtain ⟨h1, h2⟩ := List.getElem?_eq_some_iff.1 hc
  have hl : (lettersF q (l.take k)).length = k := by unfold lettersF; rw [List.length_map, List.length_take]; omega
  have e1 : l.take (k + 1) = l.take k ++ [c] := by rw [List.take_add_one, hc]; rfl
  have e2 : l.drop k = c :: l.drop (k + 1) := by rw [List.drop_eq_getElem_cons h1, h2]
  have e3 : lettersF q (l.take k ++ [c]) = lettersF q (l.take k) ++ [if q c then c ^^^ 97 ^^^ 65 else c] := by unfold lettersF; simp
  rw [e1, e2, e3, List.set_append_right _ _ (by omega), hl, Nat.sub_self, List.set_cons_zero, List.append_assoc]
  rfl
theorem letters_at (q : UInt8 → Bool) (l : List UInt8) (k : Nat) (c : UInt8) (hc : l[k]? = some c) : (lettersF q (l.take k) ++ l.drop k)[k]? = some c := by
  obtain ⟨h1, h2⟩ := List.getElem?_eq_some_iff.1 hc
  have hl : (lettersF q (l.take k)).length = k := by unfold lettersF; rw [List.length_map, List.length_take]; omega
  rw [List.getElem?_append_right (by omega), hl, Nat.sub_self, List.getElem?_drop, Nat.add_zero, hc]
theorem letters_len (q : UInt8 → Bool) (l : List UInt8) (k : Nat) (hk : k ≤ l.length) : (lettersF q (l.take k) ++ l.drop k).length = l.length := by
  unfold lettersF
  rw [List.length_append, List.length_map, List.length_take, List.length_drop]
  omega
set_option maxHeartbeats 2000000 in
theorem letters_turn (q : UInt8 → Bool) (g : Nat) (hg : Enters g) (hq : ∀ (c : UInt8) W, Calls Tryz.prog g #[.int .u8 (c.toNat : Int)] W fun e w' => e = .returned (.bool (q c)) ∧ W = w') (W : World) (b : Nat) (hc : W.cell? ⟨b, 0, none⟩ = some (.func (.func g) #[] #[])) (l : List UInt8) (hl : l.length ≤ 2147483647) :
    Calls Tryz.prog 92 #[.string (str l), .pointer (some ⟨b, 0, none⟩)] W fun e w' => e = .returned (.string (str (lettersT q l))) ∧ Below W.heap.size W w' := by
  have HQ := hidK hq
  have hzs : (str l).size = l.length := rfl
  by_cases h1 : 1024 < l.length
  · have HR : Hid (lettersT q l = l) := if_pos h1
    obtain ⟨z, hz⟩ : ∃ z, str l = z := ⟨_, rfl⟩
    have HZ := hidK hz
    rw [hz] at hzs ⊢
    obtain ⟨n, hn⟩ : ∃ n, l.length = n := ⟨_, rfl⟩
    rw [hn] at hzs h1 hl
    clear hz hn hq
    go_enter Tryz.func92, Tryz.ntmps92
    go_wp2_with fail
    all_goals go_ret
    all_goals exact ⟨by rw [HR.out, HZ.out]; rfl, Below.refl _ _⟩
  · have HR : Hid (lettersT q l = lettersF q l) := if_neg h1
    have HG : Hid (∀ k c (h : k < (str l).size), l[k]? = some c → (str l)[k] = c) := fun k c h hc => str_getF l k c hc h
    obtain ⟨z, hz⟩ : ∃ z, str l = z := ⟨_, rfl⟩
    have HZ := hidK hz
    rw [hz] at hzs HG ⊢
    obtain ⟨n, hn⟩ : ∃ n, l.length = n := ⟨_, rfl⟩
    have HN := hidK hn
    rw [hn] at hzs h1 hl
    clear hz hn hq
    go_enter Tryz.func92, Tryz.ntmps92
    obtain ⟨W1, hW1⟩ : ∃ W1, bytesW W z = W1 := ⟨_, rfl⟩
    obtain ⟨cap, hcap⟩ : ∃ cap, grownCap W z.size 0 5 = cap := ⟨_, rfl⟩
    have hcv : (convert 9 55 (.string z)).run Tryz.prog W = .ok (.slice (some ⟨W.heap.size, 0, none⟩) n cap) W1 := by
      have h := run_bytes_of_string (P := Tryz.prog) W 9 55 5 z Tryz.underlying9 Tryz.underlying55 Tryz.underlying5
      rw [h, hzs, ← hW1, ← hcap, hzs]
      unfold bytesW
      rw [hzs]
    have HY0 : Hid (YRow W1 W.heap.size l) := by rw [← hW1, ← HZ.out]; exact bytes_row W l
    have HB1 : Hid (Below W.heap.size W W1) := by rw [← hW1]; exact bytes_below W z
    obtain ⟨gb, hgb⟩ : ∃ gb, W.heap.size = gb := ⟨_, rfl⟩
    rw [hgb] at hcv HY0
    have HGB := hidK hgb
    clear hW1 hcap hgb
    go_wp2_with fail
    have HL0 : Hid (YRow W1 gb (lettersF q (l.take 0) ++ l.drop 0)) := HY0.out
    have HCb := hidK hc
    clear HY0 hcv hc
    go_loopw [15] (fun s15 wx => ∃ k : Nat, k ≤ n ∧ s15 = .int .i64 (k : Int) ∧ Hid (YRow wx gb (lettersF q (l.take k) ++ l.drop k)) ∧ Hid (Below W.heap.size W wx)) (fun v _ => n - (intOf v).toNat)
    case atStart => exact ⟨0, Nat.zero_le _, rfl, HL0.out, HB1.out⟩
    case round =>
      clear HL0 HB1
      obtain ⟨k, hk, rfl, HY, HB⟩ := hrel
      by_cases hkn : k < n
      · obtain ⟨c, hcc⟩ : ∃ c, l[k]? = some c := ⟨_, List.getElem?_eq_getElem (by rw [HN.out]; exact hkn)⟩
        have ck := HY.out.cell (letters_at q l k c hcc)
        have hln := letters_len q l k (by rw [HN.out]; omega)
        rw [HN.out] at hln
        have fk := HY.out.free (j := k) (by omega)
        have bk := (HB.out.cell (p := ⟨b, 0, none⟩) (World.block_lt_of_cell? W _ HCb.out)).trans HCb.out
        have HQc := hidK fun W => HQ.out c W
        have HSn := hidK (letters_snoc q l k c hcc)
        have HSt := hidK fun d => HY.out.set (j := k) (by omega) d
        have HE := hidK hg
        cases hqc : q c with
        | true =>
          rw [hqc] at HQc HSn
          rw [if_pos rfl] at HSn
          clear hcc hqc hln
          unfold Enters at hg
          go_wp2_with (go_at_fn g; refine (HQc.out _).mono ?_; rintro x w2 ⟨rfl, rfl⟩)
          all_goals exact ⟨⟨k + 1, by omega, by go_num, by rw [xor_bits, ← HSn.out]; exact HSt.out _, HB.out.setCell (Nat.le_of_eq HGB.out) _⟩, by simp [intOf]; omega⟩
        | false =>
          rw [hqc] at HQc HSn
          rw [if_neg (by simp)] at HSn
          have HS0 : Hid (lettersF q (l.take (k + 1)) ++ l.drop (k + 1) = lettersF q (l.take k) ++ l.drop k) := by
            show _ = _
            rw [← HSn.out]
            exact List.set_getElem_self' (letters_at q l k c hcc)
          clear hcc hqc hln HSn
          unfold Enters at hg
          go_wp2_with (go_at_fn g; refine (HQc.out _).mono ?_; rintro x w2 ⟨rfl, rfl⟩)
          all_goals go_roundw
          case rel => exact ⟨k + 1, by omega, by go_num, by rw [HS0.out]; exact HY.out, HB.out⟩
          case measure => simp [intOf]; omega
      · obtain rfl : k = n := by omega
        have hall : lettersF q (l.take k) ++ l.drop k = lettersF q l := by rw [List.take_of_length_le (by rw [HN.out]; omega), List.drop_eq_nil_of_le (by rw [HN.out]; omega), List.append_nil]
        have HYe : Hid (YRow wr gb (lettersF q l)) := by have h := HY.out; rw [hall] at h; exact h
        have hlen : (lettersF q l).length = k := by unfold lettersF; rw [List.length_map, HN.out]
        have hcv : (convert 55 9 (.slice (some ⟨gb, 0, none⟩) k cap)).run Tryz.prog wr = .ok (.string (str (lettersF q l))) wr := by
          have h := run_convert_bytes_back (P := Tryz.prog) wr 55 9 5 ⟨gb, 0, none⟩ cap (lettersF q l) Tryz.underlying55 Tryz.underlying5 Tryz.underlying9 (fun j hj => by
            rw [show (⟨gb, 0, none⟩ : Addr).add j = ⟨gb, j, none⟩ by unfold Addr.add; split <;> simp_all]
            exact HYe.out.cell (List.getElem?_eq_getElem hj))
          rw [hlen] at h
          exact h
        obtain ⟨zr, hzr⟩ : ∃ zr, str (lettersF q l) = zr := ⟨_, rfl⟩
        rw [hzr] at hcv
        have HZR := hidK hzr
        clear HY hall hlen hzr HYe
        go_wp2_with fail
        all_goals go_ret
        all_goals exact ⟨by rw [HR.out, HZR.out]; rfl, HB.out⟩
end Go.Proofs.YtlfcjcaofhcfnaaGreatDoor

namespace Go.Proofs.YtlfcjcaofhcfnaaGreatDoor
open Go.RowKit
set_option linter.unusedVariables false
set_option maxRecDepth 100000

theorem index_ge : ∀ (l x : List UInt8), -1 ≤ Lib.index l x
  | [], x => by unfold Lib.index; split <;> omega
  | b :: l, x => by
    have := index_ge l x
    unfold Lib.index
    split
    · omega
    split
    · omega
    · omega
theorem index_le {l x : List UInt8} : ∀ {o : Nat}, Lib.index l x = (o : Int) → o + x.length ≤ l.length := by
  induction l with
  | nil =>
    intro o h
    unfold Lib.index at h
    split at h
    · rename_i e
      have : x = [] := List.isEmpty_iff.1 e
      subst this
      simp
      omega
    · omega
  | cons b l ih =>
    intro o h
    unfold Lib.index at h
    split at h
    · rename_i e
      obtain ⟨r, hr⟩ := List.isPrefixOf_iff_prefix.1 e
      have := congrArg List.length hr
      rw [List.length_append] at this
      omega
    split at h
    · omega
    · rename_i e
      have hge := index_ge l x
      have e2 : ¬ Lib.index l x = -1 := fun h9 => e (by rw [h9]; rfl)
      obtain ⟨q, hq⟩ : ∃ q : Nat, Lib.index l x = q := ⟨(Lib.index l x).toNat, by omega⟩
      have := ih hq
      simp only [List.length_cons]
      omega
theorem EI.len2 {w W : World} {b : Nat} {said : List UInt8} (h : EI w W b said) (hl : said.length ≤ 1099511627776) : Calls Tryz.prog 17 #[.pointer (some ⟨b, 0, none⟩)] W fun e w' => e = .returned (.int .i64 (said.length : Int)) ∧ W = w' := by
  obtain ⟨cs, v, h1, h2⟩ := h.bld
  obtain ⟨a, c, rfl⟩ := owns_len h1.own
  have c1 : W.cell? ⟨b, 0 + 1, none⟩ = some (.slice a said.length c) := (cell_at h1.blk (0 + 1)).trans h1.buf
  obtain ⟨n, hn⟩ : ∃ n, said.length = n := ⟨_, rfl⟩
  rw [hn] at c1 hl ⊢
  clear h h1 h2 hn
  go_enter Tryz.func17, Tryz.ntmps17
  go_wp2
  all_goals go_ret
  all_goals exact ⟨rfl, rfl⟩
theorem write_in2 {w : World} {B b : Nat} {T : TypeId} {cs : Array Value} {v : Value} {l : List UInt8} (t : List UInt8) (h : BuilderIn w B b 0 T cs v l) (hB : B ≤ w.heap.size) (hBb : B ≤ b) (h0 : l = [] → v = .slice none 0 0) (hlen : l.length + t.length ≤ 1099511627776) :
    Calls Tryz.prog 18 #[.pointer (some ⟨b, 0, none⟩), .string (str t)] w fun e w' => (∃ r, e = .returned r) ∧ ∃ cs' v', BuilderIn w' B b 0 T cs' v' (l ++ t) ∧ (l ++ t = [] → v' = .slice none 0 0) ∧ ∃ S, But S w w' ∧ ∀ k ∈ S, B ≤ k := by
  by_cases hv : l ++ t = []
  · obtain ⟨rfl, rfl⟩ := List.append_eq_nil_iff.1 hv
    have hv0 := h0 rfl
    subst hv0
    refine (writeVoid_in h).mono ?_
    rintro e w' ⟨hr, cs', h1, h2⟩
    exact ⟨hr, cs', _, h1, fun _ => rfl, _, h2, fun k hk => by rw [List.mem_singleton.1 hk]; exact hBb⟩
  · refine (writeString_in (str t) h hB (by rw [str_size]; omega)).mono ?_
    rintro e w' ⟨hr, v', h1, h2⟩
    refine ⟨hr, _, v', h1, fun e => absurd e hv, _, h2, fun k hk => ?_⟩
    rcases List.mem_cons.1 hk with rfl | hk
    · exact hBb
    · have e : v.ownBlock = some k := by simpa using hk
      exact (World.ownsRow.lt h.own k e).1
theorem EI.write2 {w W : World} {b : Nat} {said : List UInt8} (h : EI w W b said) (t : List UInt8) (hl : said.length + t.length ≤ 1099511627776) : Calls Tryz.prog 18 #[.pointer (some ⟨b, 0, none⟩), .string (str t)] W fun e w' => (∃ r, e = .returned r) ∧ EI w w' b (said ++ t) := by
  obtain ⟨cs, v, h1, h2⟩ := h.bld
  refine (write_in2 t h1 h.below.size h.late h2 hl).mono ?_
  rintro e w' ⟨hr, cs', v', k1, k2, S, k3, k4⟩
  exact ⟨hr, ⟨⟨cs', v', k1, k2⟩, k3.under h.below h.below.size k4, h.late⟩⟩

set_option maxHeartbeats 4000000 in
theorem exchanged_any (l x y : List UInt8) (hl : l.length ≤ 2147483647) (hx : 1 ≤ x.length) (hxl : x.length ≤ 2147483647) (hyl : y.length ≤ 2147483647) (w : World) (hm : ∃ m, w.cell? ⟨1, 0, none⟩ = some (.int .i64 m)) :
    Calls Tryz.prog 95 #[.string (str l), .string (str x), .string (str y)] w fun e w' => e = .returned (.string (str (exchF x y l))) ∧ Below w.heap.size w w' := by
  obtain ⟨mx, hmx⟩ := hm
  have HI : Hid (∀ (t : List UInt8) W, t.length ≤ 2147483647 → Below w.heap.size w W → Calls Tryz.prog 130 #[.string (str t), .string (str x)] W fun e w' => e = .returned (.int .i64 (Lib.index t x)) ∧ w' = W) := fun t W ht hb =>
    Tryz.strings_Index (str t) (str x) mx W (by rw [str_size]; omega) ((hb.cell (p := ⟨1, 0, none⟩) (World.block_lt_of_cell? w _ hmx)).trans hmx)
  have HF : Hid (exchG x y (l.length + 1) [] l = exchF x y l) := rfl
  obtain ⟨zx, hzx⟩ : ∃ z, str x = z := ⟨_, rfl⟩
  obtain ⟨zy, hzy⟩ : ∃ z, str y = z := ⟨_, rfl⟩
  have hxs : zx.size = x.length := by rw [← hzx]; rfl
  have HZy := hidK hzy
  rw [hzx] at HI ⊢
  rw [hzy]
  obtain ⟨nx, hnx⟩ : ∃ n, x.length = n := ⟨_, rfl⟩
  rw [hnx] at hxs hx hxl
  have HNx := hidK hnx
  obtain ⟨R, hR⟩ : ∃ R, exchF x y l = R := ⟨_, rfl⟩
  rw [hR] at HF ⊢
  have HE0 := hidK (EI.start w)
  clear hzx hzy hnx hR hmx
  go_enter Tryz.func95, Tryz.ntmps95
  go_wp2_with fail
  go_loopg [0] (l.length + 1) (fun gg s0 wx => ∃ (t out : List UInt8), s0 = .string (str t) ∧ t.length ≤ 2147483647 ∧ t.length < gg ∧ out.length ≤ 8589934592 ∧ Hid (exchG x y gg out t = R) ∧ Hid (EI w wx w.heap.size out))
  case atStart => exact ⟨l, [], rfl, hl, by omega, by simp, HF.out, HE0.out⟩
  case round =>
    clear HE0 HF
    obtain ⟨t, out, rfl, htl, hgg, hol, HX, HE⟩ := hrel
    cases gk with
    | zero => omega
    | succ gk =>
      have hG := HX.out
      unfold exchG at hG
      have HLen := hidK (HE.out.len2 (by omega))
      by_cases h1 : 1024 < out.length
      · rw [if_pos h1] at hG
        have HSt := hidK HE.out.string
        obtain ⟨no, hno⟩ : ∃ n, out.length = n := ⟨_, rfl⟩
        rw [hno] at HLen h1 hol
        have HGo := hidK hG
        clear hG HX HE hno
        go_wp2_with fail
        refine HLen.out.mono ?_
        rintro e w2 ⟨rfl, rfl⟩
        go_wp2_with fail
        refine HSt.out.mono ?_
        rintro e w3 ⟨rfl, hb3⟩
        have HB3 := hidK hb3
        clear hb3
        go_wp2_with fail
        all_goals go_ret
        all_goals exact ⟨by rw [← HGo.out]; rfl, HB3.out⟩
      · rw [if_neg h1] at hG
        have HIx := hidK (HI.out t _ htl HE.out.below)
        obtain ⟨ix, hix⟩ : ∃ ix, Lib.index t x = ix := ⟨_, rfl⟩
        have hge := index_ge t x
        rw [hix] at HIx hG hge
        have HGo := hidK hG
        by_cases hneg : ix < 0
        · have HGn : Hid (out ++ t = R) := by have h := HGo.out; rw [if_pos hneg] at h; exact h
          have HWr := hidK (HE.out.write2 t (by omega))
          obtain ⟨no, hno⟩ : ∃ n, out.length = n := ⟨_, rfl⟩
          rw [hno] at HLen h1 hol
          obtain ⟨zt, hzt⟩ : ∃ z, str t = z := ⟨_, rfl⟩
          rw [hzt] at HIx HWr ⊢
          clear hG HX HE hno hix HGo hzt
          go_wp2_with fail
          refine HLen.out.mono ?_
          rintro e w2 ⟨rfl, rfl⟩
          go_wp2_with fail
          refine HIx.out.mono ?_
          rintro e w3 ⟨rfl, rfl⟩
          go_wp2_with fail
          refine HWr.out.mono ?_
          rintro e w4 ⟨⟨r, rfl⟩, hE4⟩
          have HSt := hidK hE4.string
          clear hE4
          go_wp2_with fail
          refine HSt.out.mono ?_
          rintro e w5 ⟨rfl, hb5⟩
          have HB5 := hidK hb5
          clear hb5
          go_wp2_with fail
          all_goals go_ret
          all_goals exact ⟨by rw [← HGn.out]; rfl, HB5.out⟩
        · obtain ⟨k, rfl⟩ : ∃ k : Nat, ix = (k : Int) := ⟨ix.toNat, by omega⟩
          have hkl := index_le hix
          rw [HNx.out] at hkl
          have HGn : Hid (exchG x y gk (out ++ (t.take k ++ y)) (t.drop (k + nx)) = R) := by have h := HGo.out; rw [if_neg hneg, HNx.out] at h; exact h
          have hzts : (str t).size = t.length := rfl
          have htk := str_takeF t k
          have hdr := str_dropF t (k + nx)
          have HWr := hidK (HE.out.write2 (t.take k) (by rw [List.length_take]; omega))
          obtain ⟨no, hno⟩ : ∃ n, out.length = n := ⟨_, rfl⟩
          rw [hno] at HLen h1 hol
          have HNo := hidK hno
          obtain ⟨nt, hnt⟩ : ∃ n, t.length = n := ⟨_, rfl⟩
          have HNt := hidK hnt
          rw [hnt] at hzts htl hkl hgg
          obtain ⟨zt, hzt⟩ : ∃ z, str t = z := ⟨_, rfl⟩
          obtain ⟨za, hza⟩ : ∃ z, str (t.take k) = z := ⟨_, rfl⟩
          obtain ⟨zd, hzd⟩ : ∃ z, str (t.drop (k + nx)) = z := ⟨_, rfl⟩
          have HZd := hidK hzd
          rw [hzt] at HIx hzts htk hdr ⊢
          rw [hza] at HWr htk
          rw [hzd, hzts] at hdr
          clear hG HX HE hno hix HGo hzt hza hzd hnt
          go_wp2_with fail
          refine HLen.out.mono ?_
          rintro e w2 ⟨rfl, rfl⟩
          go_wp2_with fail
          refine HIx.out.mono ?_
          rintro e w3 ⟨rfl, rfl⟩
          go_wp2_with fail
          refine HWr.out.mono ?_
          rintro e w4 ⟨⟨r, rfl⟩, hE4⟩
          have HWr2 := hidK (hE4.write2 y (by rw [List.length_append, List.length_take, HNo.out, HNt.out]; omega))
          rw [HZy.out] at HWr2
          clear hE4
          go_wp2_with fail
          refine HWr2.out.mono ?_
          rintro e w5 ⟨⟨r2, rfl⟩, hE5⟩
          have HE5 : Hid (EI w w5 w.heap.size (out ++ (t.take k ++ y))) := by rw [← List.append_assoc]; exact hE5
          clear hE5
          go_wp2_with fail
          all_goals go_roundg gk
          case measure => simp
          case rel => exact ⟨t.drop (k + nx), out ++ (t.take k ++ y), by rw [HZd.out, hdr], by rw [List.length_drop, HNt.out]; omega, by rw [List.length_drop, HNt.out]; omega, by rw [List.length_append, List.length_append, List.length_take, HNo.out, HNt.out]; omega, HGn.out, HE5.out⟩
end Go.Proofs.YtlfcjcaofhcfnaaGreatDoor

namespace Go.Proofs.YtlfcjcaofhcfnaaGreatDoor
open Go.RowKit
set_option linter.unusedVariables false
set_option maxRecDepth 20000

theorem splitG_at (c : UInt8) : ∀ (l cur : List UInt8), (Lib.indexByte l c = -1 → splitG c cur l = [cur ++ l]) ∧ ∀ i : Nat, Lib.indexByte l c = (i : Int) → i < l.length ∧ splitG c cur l = (cur ++ l.take i) :: splitG c [] (l.drop (i + 1))
  | [], cur => ⟨fun _ => by simp [splitG], fun i h => by simp [Lib.indexByte] at h⟩
  | d :: r, cur => by
    have hge := Lib.indexByte_ge r c
    by_cases hd : d = c
    · subst hd
      refine ⟨fun h => by simp [Lib.indexByte] at h, fun i h => ?_⟩
      have : i = 0 := by simp [Lib.indexByte] at h; omega
      subst this
      exact ⟨by simp, by simp [splitG]⟩
    · have e1 : Lib.indexByte (d :: r) c = if Lib.indexByte r c = -1 then -1 else Lib.indexByte r c + 1 := by
        rw [Lib.indexByte]
        simp [hd]
      obtain ⟨h1, h2⟩ := splitG_at c r (cur ++ [d])
      have e2 : splitG c cur (d :: r) = splitG c (cur ++ [d]) r := by simp [splitG, hd]
      rw [e1, e2]
      refine ⟨fun h => ?_, fun i h => ?_⟩
      · have h3 : Lib.indexByte r c = -1 := by
          by_cases h4 : Lib.indexByte r c = -1
          · exact h4
          · rw [if_neg h4] at h; omega
        rw [h1 h3]
        simp
      · have h4 : ¬ Lib.indexByte r c = -1 := fun h4 => by rw [if_pos h4] at h; omega
        rw [if_neg h4] at h
        obtain ⟨j, rfl⟩ : ∃ j, i = j + 1 := ⟨i - 1, by omega⟩
        obtain ⟨h5, h6⟩ := h2 j (by omega)
        exact ⟨by simpa using h5, by rw [h6]; simp⟩
theorem index_byte (l : List UInt8) (c : UInt8) : Lib.indexB (str l) (str [c]) = Lib.indexByte l c := by
  show Lib.index (str l).data.toList (str [c]).data.toList = _
  rw [str_data, str_data, Lib.index_one]
theorem split_text (c : UInt8) : ∀ (n : Nat) (l : List UInt8), l.length ≤ n → Lib.splitB (str [c]) 0 (Lib.countB (str l) (str [c])) (str l) = (splitG c [] l).map str := by
  intro n
  induction n with
  | zero =>
    intro l hl
    have : l = [] := List.eq_nil_of_length_eq_zero (by omega)
    subst this
    have hi := index_byte [] c
    have hm : Lib.indexB (str []) (str [c]) = -1 := hi
    rw [Lib.countB_miss _ _ hm, Lib.splitB_zero]
    rfl
  | succ n ih =>
    intro l hl
    have hi := index_byte l c
    have hge := Lib.indexByte_ge l c
    obtain ⟨g1, g2⟩ := splitG_at c l []
    by_cases h : Lib.indexByte l c = -1
    · rw [h] at hi
      rw [Lib.countB_miss _ _ hi, Lib.splitB_zero, g1 h]
      simp
    · obtain ⟨i, hii⟩ : ∃ i : Nat, Lib.indexByte l c = (i : Int) := ⟨(Lib.indexByte l c).toNat, by omega⟩
      rw [hii] at hi
      obtain ⟨h1, h2⟩ := g2 i hii
      have hs : (str [c]).size = 1 := rfl
      rw [Lib.countB_hit _ _ i (by rw [hs]; exact Nat.le_refl _) hi, Nat.add_comm, Lib.splitB_hit _ _ _ _ i hi, hs, str_dropF, ih _ (by rw [List.length_drop]; omega), h2, Nat.add_zero, str_takeF]
      simp
theorem splitG_short (c : UInt8) : ∀ (l cur : List UInt8) (p : List UInt8), p ∈ splitG c cur l → p.length ≤ cur.length + l.length
  | [], cur, p, h => by simp [splitG] at h; subst h; simp
  | d :: r, cur, p, h => by
    simp only [splitG] at h
    split at h
    · rcases List.mem_cons.1 h with rfl | h
      · simp
      · have := splitG_short c r [] p h
        simp at this ⊢
        omega
    · have := splitG_short c r (cur ++ [d]) p h
      simp at this ⊢
      omega
/-- strings.Split at a byte. -/
theorem split_any (l : List UInt8) (c : UInt8) (hl : l.length ≤ 2147483647) (w : World) (hm : ∃ m, w.cell? ⟨1, 0, none⟩ = some (.int .i64 m)) : Calls Tryz.prog 93 #[.string (str l), .string (str [c])] w fun e w' => e = .returned (.slice (some ⟨w.heap.size, 0, none⟩) (splitG c [] l).length (splitG c [] l).length) ∧ w' = w.alloc (.cells (((splitG c [] l).map str).map Value.string).toArray 9) := by
  obtain ⟨m, hm⟩ := hm
  have h := Tryz.strings_Split (str l) (str [c]) m w (by rw [str_size]; omega) hm (by show 1 ≤ 1; exact Nat.le_refl _)
  have hn := Lib.splitB_all (str [c]) (by show 1 ≤ 1; exact Nat.le_refl _) 0 _ (str l) rfl
  rw [split_text c l.length l (Nat.le_refl _)] at h hn
  rw [List.length_map] at hn
  rw [← hn] at h
  exact h
/-- strings.Cut at a byte. -/
theorem colon_index (l : List UInt8) : (Lib.indexByte l 58 = -1 → colonF l = none) ∧ ∀ i : Nat, Lib.indexByte l 58 = (i : Int) → colonF l = some i := by
  induction l with
  | nil => exact ⟨fun _ => rfl, fun i h => by simp [Lib.indexByte] at h⟩
  | cons d r ih =>
    have hge := Lib.indexByte_ge r 58
    by_cases hd : d = 58
    · subst hd
      refine ⟨fun h => by simp [Lib.indexByte] at h, fun i h => ?_⟩
      have : i = 0 := by simp [Lib.indexByte] at h; omega
      subst this
      rfl
    · have hn : ¬ d.toNat = 58 := fun e => hd (UInt8.toNat_inj.1 e)
      have e1 : Lib.indexByte (d :: r) 58 = if Lib.indexByte r 58 = -1 then -1 else Lib.indexByte r 58 + 1 := by
        rw [Lib.indexByte]
        simp [hd]
      have e2 : colonF (d :: r) = (colonF r).map (· + 1) := by
        unfold colonF
        rw [List.findIdx?_cons]
        simp [hn]
      rw [e1, e2]
      refine ⟨fun h => ?_, fun i h => ?_⟩
      · have h3 : Lib.indexByte r 58 = -1 := by
          by_cases h4 : Lib.indexByte r 58 = -1
          · exact h4
          · rw [if_neg h4] at h; omega
        rw [ih.1 h3]
        rfl
      · have h4 : ¬ Lib.indexByte r 58 = -1 := fun h4 => by rw [if_pos h4] at h; omega
        rw [if_neg h4] at h
        obtain ⟨j, rfl⟩ : ∃ j, i = j + 1 := ⟨i - 1, by omega⟩
        rw [ih.2 j (by omega)]
        rfl
def colonV (l : List UInt8) : List UInt8 × List UInt8 × Bool := match colonF l with
  | some k => (l.take k, l.drop (k + 1), true)
  | none => (l, [], false)
theorem cut_colon (l : List UInt8) : Lib.cut l [58] = colonV l := by
  unfold Lib.cut colonV
  rw [Lib.index_one]
  have hge := Lib.indexByte_ge l 58
  obtain ⟨h1, h2⟩ := colon_index l
  by_cases h : Lib.indexByte l 58 = -1
  · rw [h1 h, h]
    rfl
  · obtain ⟨i, hi⟩ : ∃ i : Nat, Lib.indexByte l 58 = (i : Int) := ⟨(Lib.indexByte l 58).toNat, by omega⟩
    rw [h2 i hi, hi, if_pos (by omega)]
    rfl
theorem cutColon_any (l : List UInt8) (hl : l.length ≤ 2147483647) (w : World) (hm : ∃ m, w.cell? ⟨1, 0, none⟩ = some (.int .i64 m)) : Calls Tryz.prog 137 #[.string (str l), .string (str [58])] w fun e w' => e = .returned (.tuple #[.string (str (colonV l).1), .string (str (colonV l).2.1), .bool (colonV l).2.2]) ∧ ∃ n, w' = w.drewN n := by
  obtain ⟨m, hm⟩ := hm
  have h := Tryz.strings_Cut (str l) (str [58]) m w (by rw [str_size]; omega) hm
  rw [str_data, str_data, cut_colon] at h
  exact h
theorem splitG_count (c : UInt8) : ∀ (l cur : List UInt8), (splitG c cur l).length ≤ l.length + 1
  | [], cur => by simp [splitG]
  | d :: r, cur => by
    simp only [splitG]
    split
    · have := splitG_count c r []
      simp
      omega
    · have := splitG_count c r (cur ++ [d])
      simp
      omega

end Go.Proofs.YtlfcjcaofhcfnaaGreatDoor

namespace Go.Proofs.YtlfcjcaofhcfnaaGreatDoor
open Go.RowKit
set_option linter.unusedVariables false
set_option maxRecDepth 100000

theorem itoa_any {w : World} (h : NEnv w) (n : Nat) (hn : n ≤ 2147483647) : Calls Tryz.prog 39 #[.int .i64 (n : Int)] w fun e w' => e = .returned (.string (str (Lib.itoa (n : Int)))) ∧ Below w.heap.size w w' := by
  refine (Tryz.strconv_Itoa (n : Int) (by omega) (by omega) w h.tab).mono ?_
  rintro e w1 ⟨rfl, k, os, hw⟩
  exact ⟨rfl, by rw [hw]; exact Lib.below_grow _ _ (Nat.le_refl _) _ _⟩
theorem count_any {w : World} (h : NEnv w) (l : List UInt8) (hl : l.length ≤ 2147483647) : Calls Tryz.prog 38 #[.string (str l)] w fun e w' => e = .returned (.string (str (Turn.count.of l))) ∧ Below w.heap.size w w' := by
  have HI : Hid (Calls Tryz.prog 39 #[.int .i64 (l.length : Int)] w fun e w' => e = .returned (.string (str (Turn.count.of l))) ∧ Below w.heap.size w w') := itoa_any h l.length hl
  have hs : (str l).size = l.length := rfl
  obtain ⟨z, hz⟩ : ∃ z, str l = z := ⟨_, rfl⟩
  obtain ⟨y, hy⟩ : ∃ y, str (Turn.count.of l) = y := ⟨_, rfl⟩
  obtain ⟨n, hn⟩ : ∃ n, l.length = n := ⟨_, rfl⟩
  rw [hz] at hs ⊢
  rw [hy] at HI ⊢
  rw [hn] at HI hs hl
  clear hz hy hn h
  go_enter Tryz.func38, Tryz.ntmps38
  go_wp2_with (go_at_call 39; refine HI.out.mono ?_; rintro x w1 ⟨rfl, hb1⟩)
  all_goals go_ret
  all_goals exact ⟨rfl, by assumption⟩

set_option maxHeartbeats 1000000 in
theorem exch_turn (x y : List UInt8) (hx : x ≠ []) (hxl : x.length ≤ 2147483647) (hyl : y.length ≤ 2147483647) (W : World) (hE : NEnv W) (b g : Nat) (n c : Nat) (hc : W.cell? ⟨b, 0, none⟩ = some (.slice (some ⟨g, 0, none⟩) 4 4)) (h1 : W.cell? ⟨g, 1, none⟩ = some (.string (str x))) (h2 : W.cell? ⟨g, 2, none⟩ = some (.string (str y))) (l : List UInt8) (hl : l.length ≤ 2147483647) :
    Calls Tryz.prog 94 #[.string (str l), .pointer (some ⟨b, 0, none⟩)] W fun e w' => e = .returned (.string (str ((Turn.exch x y).of l))) ∧ Below W.heap.size W w' := by
  have HX : Hid (∀ V, Below W.heap.size W V → Calls Tryz.prog 95 #[.string (str l), .string (str x), .string (str y)] V fun e w' => e = .returned (.string (str ((Turn.exch x y).of l))) ∧ Below V.heap.size V w') := fun V hV => exchanged_any l x y hl (List.length_pos_iff.2 hx) hxl hyl V (hE.below hV).max
  obtain ⟨z, hz⟩ : ∃ z, str l = z := ⟨_, rfl⟩
  obtain ⟨zx, hzx⟩ : ∃ z, str x = z := ⟨_, rfl⟩
  obtain ⟨zy, hzy⟩ : ∃ z, str y = z := ⟨_, rfl⟩
  obtain ⟨r, hr⟩ : ∃ r, str ((Turn.exch x y).of l) = r := ⟨_, rfl⟩
  rw [hz, hzx, hzy, hr] at HX
  rw [hzx] at h1
  rw [hzy] at h2
  rw [hz, hr]
  clear hz hzx hzy hr hE hx hxl hyl hl
  go_enter Tryz.func94, Tryz.ntmps94
  go_wp2_with fail
  go_region_with (go_at_call 95; refine (HX.out _ (by repeat (first | exact Below.refl _ _ | apply Below.drew))).mono ?_; rintro e w1 ⟨rfl, hb1⟩)
  all_goals go_wp2_with fail
  all_goals go_ret
  all_goals exact ⟨rfl, by first | assumption | exact (Below.refl _ _).drew.trans hb1⟩

theorem Since.cell_old {B : Nat} {w1 V : World} {o : Obj} {g i : Nat} (h : Since B (w1.alloc o) V) (hs : w1.heap.size = g + 1) (hg : B = g) : V.cell? ⟨g, i, none⟩ = (w1.alloc o).cell? ⟨g, i, none⟩ := by
  unfold World.cell?
  rw [h.block g (by omega) (by simp; omega)]
theorem split_at {V V2 : World} {ps : List (List UInt8)} (h : Below (V.alloc (.cells ((ps.map str).map Value.string).toArray 9)).heap.size (V.alloc (.cells ((ps.map str).map Value.string).toArray 9)) V2) {i : Nat} {p : List UInt8} (hp : ps[i]? = some p) : V2.cell? ⟨V.heap.size, i, none⟩ = some (.string (str p)) := by
  rw [cell_atT ((h.block V.heap.size (by simp)).trans (heap_alloc_new V _)) i]
  simp [hp]
set_option maxHeartbeats 2000000 in
theorem exchange_any (r : List UInt8) (hr : r.length ≤ 2147483647) (W : World) (hE : NEnv W) :
    Calls Tryz.prog 43 #[.string (str r)] W fun e w' => ∃ tv ok, e = .returned (.tuple #[tv, .bool ok]) ∧ Below W.heap.size W w' ∧ ((∃ t, exchT r = some t ∧ ok = true ∧ TurnOk W.heap.size w' tv t) ∨ (exchT r = none ∧ ok = false)) := by
  have HSp := hidK (fun V (hV : Below W.heap.size W V) => split_any r 47 hr V (hE.below hV).max)
  have e47 : str [47] = (⟨#[47]⟩ : ByteArray) := rfl
  rw [e47] at HSp
  have HF : Hid (exchT r = exchP (splitG 47 [] r)) := rfl
  have hsh : ∀ p ∈ splitG 47 [] r, p.length ≤ 2147483647 := fun p hp => by
    have := splitG_short 47 r [] p hp
    simp at this
    omega
  have hcnt := splitG_count 47 r []
  obtain ⟨ps, hps⟩ : ∃ ps, splitG 47 [] r = ps := ⟨_, rfl⟩
  rw [hps] at HSp HF hsh hcnt
  have HSh := hidK hsh
  obtain ⟨z, hz⟩ : ∃ z, str r = z := ⟨_, rfl⟩
  rw [hz] at HSp ⊢
  obtain ⟨n, hn⟩ : ∃ n, ps.length = n := ⟨_, rfl⟩
  have HN := hidK hn
  rw [hn] at HSp hcnt
  clear hz hps e47 hsh hE hn
  go_enter Tryz.func43, Tryz.ntmps43
  go_wp2_with fail
  refine (HSp.out W (Below.refl _ _)).mono ?_
  rintro x w1 ⟨rfl, rfl⟩
  have hsz : (W.alloc (.cells ((ps.map str).map Value.string).toArray 9)).heap.size = W.heap.size + 1 := by simp
  have HB1 : Hid (Below W.heap.size W (W.alloc (.cells ((ps.map str).map Value.string).toArray 9))) := (Below.refl _ _).alloc (Nat.le_refl _) _
  have HCe := hidK (fun V (hV : Below (W.alloc (.cells ((ps.map str).map Value.string).toArray 9)).heap.size (W.alloc (.cells ((ps.map str).map Value.string).toArray 9)) V) (i : Nat) (p : List UInt8) (hp : ps[i]? = some p) => split_at hV hp)
  obtain ⟨w1, hw1⟩ : ∃ w1, W.alloc (.cells ((ps.map str).map Value.string).toArray 9) = w1 := ⟨_, rfl⟩
  obtain ⟨g, hg⟩ : ∃ g, W.heap.size = g := ⟨_, rfl⟩
  rw [hw1] at HB1 HCe hsz ⊢
  rw [hg] at HCe hsz ⊢
  clear hw1 HSp
  by_cases h4 : n = 4
  · subst h4
    obtain ⟨a, x, y, b, rfl⟩ : ∃ a x y b, ps = [a, x, y, b] := by
      match ps, HN.out with
      | [a, x, y, b], _ => exact ⟨a, x, y, b, rfl⟩
    have HQ : Hid (∀ (o : Obj) (i : Nat) (p : List UInt8), [a, x, y, b][i]? = some p → (w1.alloc o).cell? ⟨g, i, none⟩ = some (.string (str p))) := fun o i p hp => HCe.out _ ((Below.refl _ _).alloc (Nat.le_refl _) _) i p hp
    have q0 := fun o => HQ.out o 0 a rfl
    have q1 := fun o => HQ.out o 1 x rfl
    have q2 := fun o => HQ.out o 2 y rfl
    have q3 := fun o => HQ.out o 3 b rfl
    obtain ⟨az, haz⟩ : ∃ z, str a = z := ⟨_, rfl⟩
    obtain ⟨xz, hxz⟩ : ∃ z, str x = z := ⟨_, rfl⟩
    obtain ⟨yz, hyz⟩ : ∃ z, str y = z := ⟨_, rfl⟩
    obtain ⟨bz, hbz⟩ : ∃ z, str b = z := ⟨_, rfl⟩
    rw [haz] at q0
    rw [hxz] at q1
    rw [hyz] at q2
    rw [hbz] at q3
    have HB2 : Hid (∀ o, Below W.heap.size W (w1.alloc o)) := fun o => HB1.out.alloc (by rw [hg]; omega) o
    have HXl := hidK (HSh.out x (by simp))
    have HYl := hidK (HSh.out y (by simp))
    by_cases ha : a = []
    · by_cases hx : x = []
      · have HNo : Hid (exchT r = none) := by rw [HF.out]; exact if_neg (by rintro ⟨h1, h2, h3⟩; exact h2 hx)
        have a1 : az.toList.isEmpty = true := by rw [← haz, str_toList]; exact List.isEmpty_iff.2 ha
        have a2 : az.toList = [] := by rw [← haz, str_toList]; exact ha
        have x1 : xz.toList.isEmpty = true := by rw [← hxz, str_toList]; exact List.isEmpty_iff.2 hx
        have x2 : xz.toList = [] := by rw [← hxz, str_toList]; exact hx
        clear haz hxz hyz hbz ha hx
        clear HF HCe HSh HQ
        go_wp2_with fail
        all_goals go_ret2
        all_goals exact ⟨_, _, rfl, HB2.out _, .inr ⟨HNo.out, rfl⟩⟩
      · by_cases hb : b = []
        · have HYe : Hid (exchT r = some (.exch x y)) := by rw [HF.out]; exact if_pos ⟨ha, hx, hb⟩
          have a1 : az.toList.isEmpty = true := by rw [← haz, str_toList]; exact List.isEmpty_iff.2 ha
          have a2 : az.toList = [] := by rw [← haz, str_toList]; exact ha
          have x1 : xz.toList.isEmpty = false := by rw [← hxz, str_toList]; cases x with | nil => exact absurd rfl hx | cons _ _ => rfl
          have x2 : ¬ xz.toList = [] := by rw [← hxz, str_toList]; exact hx
          have b1 : bz.toList.isEmpty = true := by rw [← hbz, str_toList]; exact List.isEmpty_iff.2 hb
          have b2 : bz.toList = [] := by rw [← hbz, str_toList]; exact hb
          have HX := hidK hxz
          have HY := hidK hyz
          have Hx := hidK hx
          clear haz hxz hyz hbz ha hx hb HF HQ
          go_wp2_with fail
          all_goals go_ret2
          all_goals refine ⟨_, _, rfl, HB2.out _, .inl ⟨_, HYe.out, rfl, _, _, rfl, enters_of Tryz.func94 (by kernel_rfl) rfl, fun V hV hE l hl => ?_⟩⟩
          all_goals exact exch_turn x y Hx.out HXl.out HYl.out V hE (g + 1) g 0 0 (cell_atT ((hV.block (g + 1) (by rw [hg]; omega) (by simp; omega)).trans (by rw [← hsz]; exact heap_alloc_new w1 _)) 0) ((hV.cell_old hsz hg).trans (by rw [q1, HX.out])) ((hV.cell_old hsz hg).trans (by rw [q2, HY.out])) l hl
        · have HNo : Hid (exchT r = none) := by rw [HF.out]; exact if_neg (by rintro ⟨h1, h2, h3⟩; exact hb h3)
          have a1 : az.toList.isEmpty = true := by rw [← haz, str_toList]; exact List.isEmpty_iff.2 ha
          have a2 : az.toList = [] := by rw [← haz, str_toList]; exact ha
          have x1 : xz.toList.isEmpty = false := by rw [← hxz, str_toList]; cases x with | nil => exact absurd rfl hx | cons _ _ => rfl
          have x2 : ¬ xz.toList = [] := by rw [← hxz, str_toList]; exact hx
          have b1 : bz.toList.isEmpty = false := by rw [← hbz, str_toList]; cases b with | nil => exact absurd rfl hb | cons _ _ => rfl
          have b2 : ¬ bz.toList = [] := by rw [← hbz, str_toList]; exact hb
          clear haz hxz hyz hbz ha hx hb
          clear HF HCe HSh HQ
          go_wp2_with fail
          all_goals go_ret2
          all_goals exact ⟨_, _, rfl, HB2.out _, .inr ⟨HNo.out, rfl⟩⟩
    · have HNo : Hid (exchT r = none) := by rw [HF.out]; exact if_neg (by rintro ⟨h1, h2, h3⟩; exact ha h1)
      have a1 : az.toList.isEmpty = false := by rw [← haz, str_toList]; cases a with | nil => exact absurd rfl ha | cons _ _ => rfl
      have a2 : ¬ az.toList = [] := by rw [← haz, str_toList]; exact ha
      clear haz hxz hyz hbz ha
      clear HF HCe HSh HQ
      go_wp2_with fail
      all_goals go_ret2
      all_goals exact ⟨_, _, rfl, HB2.out _, .inr ⟨HNo.out, rfl⟩⟩
  · have h4' : ¬ (n : Int) = 4 := by omega
    have HNo : Hid (exchT r = none) := by
      rw [HF.out]
      match ps, HN.out with
      | [], _ => rfl
      | [_], _ => rfl
      | [_, _], _ => rfl
      | [_, _, _], _ => rfl
      | [_, _, _, _], h => exact absurd h.symm h4
      | _ :: _ :: _ :: _ :: _ :: _, _ => rfl
    clear HF HCe
    go_wp2_with fail
    all_goals go_ret2
    all_goals exact ⟨_, _, rfl, by first | exact HB1.out | exact HB1.out.alloc (by rw [hg]; omega) _, .inr ⟨HNo.out, rfl⟩⟩
theorem exchange_turner (B : Nat) (w : World) : TurnerOk B w (.func (.func 43) #[] #[]) exchT :=
  ⟨_, _, rfl, enters_of Tryz.func43 (by kernel_rfl) rfl, fun W _ hE r hr => (exchange_any r hr W hE).mono fun e w2 ⟨tv, ok, k1, k2, k3⟩ => ⟨tv, ok, k1, k2, k3.imp (fun ⟨t, a, b, c⟩ => ⟨t, a, b, .inl c⟩) id⟩⟩

end Go.Proofs.YtlfcjcaofhcfnaaGreatDoor
