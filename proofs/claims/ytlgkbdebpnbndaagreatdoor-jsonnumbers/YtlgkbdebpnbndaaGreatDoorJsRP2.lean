
/- The reference's reader: UTF-8 of a number, four digits, an escape, a text. -/
import Derived.Test.YtlgkbdebpnbndaaGreatDoorTxBase
import Derived.Test.YtlgkbdebpnbndaaGreatDoorXmBook
import Derived.Test.YtlgkbdebpnbndaaGreatDoorJsRP1
import Derived.Test.YtlgkbdebpnbndaaGreatDoorJsList
namespace Go.Proofs.YtlgkbdebpnbndaaGreatDoor
set_option linter.unusedVariables false
set_option linter.unusedSimpArgs false
open Go.RowKit Go.BigFrame

theorem conv_lit (w : World) (l : List UInt8) (n : Nat) (hn : n = l.length) : (convert 47 9 (.slice (some ⟨w.heap.size, 0, none⟩) n n)).run Tryz.prog (w.alloc (.cells (bcs l) 5)) = .ok (.string (asS l)) (w.alloc (.cells (bcs l) 5)) :=
  str_of n (row_cells (heap_alloc_new w (.cells (bcs l) 5))) n hn
set_option maxRecDepth 100000 in
theorem utf8r_1 (v : Nat) (h : (v : Int) < 128) (w : World) : Calls Tryz.prog 139 #[.int .i64 (v : Int)] w fun e w' => e = .returned (.string (asS (encL v))) ∧ Below w.heap.size w w' := by
  have hcv := conv_lit w (encL v) 1 (by rw [enc1 (v := v) (by omega)]; rfl)
  rw [show bcs (encL v) = #[Value.int .u8 ((v : Int))] from by
    rw [enc1 (v := v) (by omega)]
    show #[Value.int .u8 ((bt (v)).toNat : Int)] = _
    rw [bt_nat (by omega)]
    all_goals simp] at hcv
  generalize asS (encL v) = R at hcv ⊢
  skip
  go_enter Tryz.func139, Tryz.ntmps139
  go_wp2_with fail
  go_ret
  exact ⟨rfl, alloc_below (Below.refl _ _) (Nat.le_refl _) _⟩
set_option maxRecDepth 100000 in
theorem utf8r_2 (v : Nat) (h : ¬ (v : Int) < 128) (h2 : (v : Int) < 2048) (w : World) : Calls Tryz.prog 139 #[.int .i64 (v : Int)] w fun e w' => e = .returned (.string (asS (encL v))) ∧ Below w.heap.size w w' := by
  have hcv := conv_lit w (encL v) 2 (by rw [enc2 (v := v) (by omega) (by omega)]; rfl)
  rw [show bcs (encL v) = #[Value.int .u8 (192 + (v : Int) / 64), Value.int .u8 (128 + (v : Int) % 64)] from by
    rw [enc2 (v := v) (by omega) (by omega)]
    show #[Value.int .u8 ((bt (192 + v / 64)).toNat : Int), Value.int .u8 ((bt (128 + v % 64)).toNat : Int)] = _
    rw [bt_nat (by omega), bt_nat (by omega)]
    all_goals simp] at hcv
  generalize asS (encL v) = R at hcv ⊢
  skip
  go_enter Tryz.func139, Tryz.ntmps139
  go_wp2_with fail
  go_ret
  exact ⟨rfl, alloc_below (Below.refl _ _) (Nat.le_refl _) _⟩
set_option maxRecDepth 100000 in
theorem utf8r_3 (v : Nat) (h : ¬ (v : Int) < 128) (h2 : ¬ (v : Int) < 2048) (h3 : (v : Int) < 65536) (hs : (v : Int) < 55296 ∨ 57344 ≤ (v : Int)) (w : World) : Calls Tryz.prog 139 #[.int .i64 (v : Int)] w fun e w' => e = .returned (.string (asS (encL v))) ∧ Below w.heap.size w w' := by
  have hcv := conv_lit w (encL v) 3 (by rw [enc3 (v := v) (by omega)]; rfl)
  rw [show bcs (encL v) = #[Value.int .u8 (224 + (v : Int) / 4096), Value.int .u8 (128 + (v : Int) / 64 % 64), Value.int .u8 (128 + (v : Int) % 64)] from by
    rw [enc3 (v := v) (by omega)]
    show #[Value.int .u8 ((bt (224 + v / 4096)).toNat : Int), Value.int .u8 ((bt (128 + v / 64 % 64)).toNat : Int), Value.int .u8 ((bt (128 + v % 64)).toNat : Int)] = _
    rw [bt_nat (by omega), bt_nat (by omega), bt_nat (by omega)]
    all_goals simp] at hcv
  generalize asS (encL v) = R at hcv ⊢
  clear hs
  go_enter Tryz.func139, Tryz.ntmps139
  go_wp2_with fail
  go_ret
  exact ⟨rfl, alloc_below (Below.refl _ _) (Nat.le_refl _) _⟩
set_option maxRecDepth 100000 in
theorem utf8r_4 (v : Nat) (h : ¬ (v : Int) < 128) (h2 : ¬ (v : Int) < 2048) (h3 : ¬ (v : Int) < 65536) (h4 : (v : Int) ≤ 1114111) (w : World) : Calls Tryz.prog 139 #[.int .i64 (v : Int)] w fun e w' => e = .returned (.string (asS (encL v))) ∧ Below w.heap.size w w' := by
  have hcv := conv_lit w (encL v) 4 (by rw [enc4 (v := v) (by omega) (by omega)]; rfl)
  rw [show bcs (encL v) = #[Value.int .u8 (240 + (v : Int) / 262144), Value.int .u8 (128 + (v : Int) / 4096 % 64), Value.int .u8 (128 + (v : Int) / 64 % 64), Value.int .u8 (128 + (v : Int) % 64)] from by
    rw [enc4 (v := v) (by omega) (by omega)]
    show #[Value.int .u8 ((bt (240 + v / 262144)).toNat : Int), Value.int .u8 ((bt (128 + v / 4096 % 64)).toNat : Int), Value.int .u8 ((bt (128 + v / 64 % 64)).toNat : Int), Value.int .u8 ((bt (128 + v % 64)).toNat : Int)] = _
    rw [bt_nat (by omega), bt_nat (by omega), bt_nat (by omega), bt_nat (by omega)]
    all_goals simp] at hcv
  generalize asS (encL v) = R at hcv ⊢
  skip
  go_enter Tryz.func139, Tryz.ntmps139
  go_wp2_with fail
  go_ret
  exact ⟨rfl, alloc_below (Below.refl _ _) (Nat.le_refl _) _⟩
theorem utf8r_any (v : Nat) (hv : validR v = true) (w : World) : Calls Tryz.prog 139 #[.int .i64 (v : Int)] w fun e w' => e = .returned (.string (asS (encL v))) ∧ Below w.heap.size w w' := by
  have hv' := validR_iff.1 hv
  by_cases h1 : (v : Int) < 128
  · exact utf8r_1 v h1 w
  · by_cases h2 : (v : Int) < 2048
    · exact utf8r_2 v h1 h2 w
    · by_cases h3 : (v : Int) < 65536
      · exact utf8r_3 v h1 h2 h3 (by omega) w
      · exact utf8r_4 v h1 h2 h3 (by omega) w
/-- Utf8: a rune's bytes, and whether it is one. -/
def utfS (v : Nat) : List UInt8 := if validR v then encL v else []
set_option maxRecDepth 100000 in
theorem Utf8_any (v : Nat) (hl : (v : Int) < 4294967296) (w : World) : Calls Tryz.prog 122 #[.int .i64 (v : Int)] w fun e w' => e = .returned (.tuple #[.string (asS (utfS v)), .bool (validR v)]) ∧ Below w.heap.size w w' := by
  have h0 : ¬ (v : Int) < 0 := by omega
  unfold utfS
  cases hv : validR v with
  | true =>
    have hv' := validR_iff.1 hv
    have HU := hid (fun W => utf8r_any v hv W)
    simp only [if_true]
    generalize asS (encL v) = R at HU ⊢
    clear hv
    have h1 : ¬ 1114111 < (v : Int) := by omega
    by_cases h2 : 55296 ≤ (v : Int)
    · have h3 : ¬ (v : Int) < 57344 := by omega
      clear hv'
      go_enter Tryz.func122, Tryz.ntmps122
      go_wp2_with (first | (go_at_call 139; refine (HU.out _).mono ?_; rintro e W1 ⟨rfl, hb⟩; have HB := hid hb; clear hb) | fail)
      go_ret2
      exact ⟨rfl, HB.out⟩
    · clear hv'
      go_enter Tryz.func122, Tryz.ntmps122
      go_wp2_with (first | (go_at_call 139; refine (HU.out _).mono ?_; rintro e W1 ⟨rfl, hb⟩; have HB := hid hb; clear hb) | fail)
      go_ret2
      exact ⟨rfl, HB.out⟩
  | false =>
    have hv' : ¬ (v < 55296 ∨ (57344 ≤ v ∧ v ≤ 1114111)) := fun h => by rw [validR_iff.2 h] at hv; cases hv
    simp only [Bool.false_eq_true, if_false]
    clear hv
    by_cases h1 : 1114111 < (v : Int)
    · clear hv'
      go_enter Tryz.func122, Tryz.ntmps122
      go_wp2_with fail
      go_ret2
      exact ⟨rfl, Below.refl _ _⟩
    · have h2 : 55296 ≤ (v : Int) := by omega
      have h3 : (v : Int) < 57344 := by omega
      clear hv'
      go_enter Tryz.func122, Tryz.ntmps122
      go_wp2_with fail
      go_ret2
      exact ⟨rfl, Below.refl _ _⟩
set_option maxRecDepth 100000 in
theorem Utf8_neg (w : World) : Calls Tryz.prog 122 #[.int .i64 (-1)] w fun e w' => e = .returned (.tuple #[.string ⟨#[]⟩, .bool false]) ∧ Below w.heap.size w w' := by
  go_enter Tryz.func122, Tryz.ntmps122
  go_wp2_with fail
  go_ret2
  exact ⟨rfl, Below.refl _ _⟩
end Go.Proofs.YtlgkbdebpnbndaaGreatDoor
namespace Go.Proofs.YtlgkbdebpnbndaaGreatDoor
set_option linter.unusedVariables false
set_option linter.unusedSimpArgs false
open Go.RowKit Go.BigFrame

theorem Rl.row5 {w : World} {R : Nat} {s l : List UInt8} {m : Nat} (h : Rl w R s l m) : Rq w R s (s.length - l.length) m 0 ∧ s.drop (s.length - l.length) = l := by
  obtain ⟨p, h1, h2, h3⟩ := h
  have e : s.length - l.length = p := by rw [← h1, List.length_drop]; omega
  rw [e]
  exact ⟨h3, h1⟩
theorem Rl.next {w w' : World} {R : Nat} {s r : List UInt8} {m : Nat} {c : UInt8} (h : Rl w R s (c :: r) m) (h2 : Rq w' R s (s.length - (c :: r).length + 1) m 0) : Rl w' R s r m := by
  have h1 := h.row5.2
  have hl := h.len
  rw [List.length_cons] at h1 hl h2
  refine ⟨s.length - (r.length + 1) + 1, ?_, by omega, h2⟩
  rw [← List.drop_drop, h1]
  rfl
theorem okQ_snoc (a : List UInt8) (c : UInt8) : okD 16 (a ++ [c]) = (okD 16 a && decide (digE c < 16)) := by
  unfold okD
  rw [List.all_append]
  simp
theorem numEQ_snoc (a : List UInt8) (c : UInt8) : numE 16 (a ++ [c]) = numE 16 a * 16 + digE c := by
  unfold numE
  rw [List.foldl_append]
  rfl
/-- What four does. -/
def FourP (l s : List UInt8) (R m : Nat) (w : World) (x : Ending) (w' : World) : Prop :=
  (∀ n r, fourJ l = some (n, r) → x = .returned (.int .i64 (n : Nat)) ∧ Rl w' R s r m ∧ n < 65536) ∧ (fourJ l = none → x = .returned (.int .i64 (-1)) ∧ Re w' R s m 5) ∧ w.grownBy w' (some R)
theorem FourP.no {l s : List UInt8} {R m : Nat} {w w' : World} (h : fourJ l = none) (hr : Re w' R s m 5) (hg : w.grownBy w' (some R)) : FourP l s R m w (.returned (.int .i64 (-1))) w' := ⟨fun n r h2 => (by rw [h] at h2; cases h2), fun _ => ⟨rfl, hr⟩, hg⟩
theorem FourP.yes {l s r : List UInt8} {R m n : Nat} {w w' : World} (h : fourJ l = some (n, r)) (hn : n < 65536) (hr : Rl w' R s r m) (hg : w.grownBy w' (some R)) : FourP l s R m w (.returned (.int .i64 (n : Nat))) w' := ⟨fun a b h2 => (by rw [h] at h2; injection h2 with h2; injection h2 with h3 h4; subst h3 h4; exact ⟨rfl, hr, hn⟩), fun h2 => (by rw [h] at h2; cases h2), hg⟩
theorem four_no (l : List UInt8) (k : Nat) (hk : k < 4) (h : ¬ digE ((l.drop k).headD 0) < 16) : fourJ l = none := by
  unfold fourJ
  split
  · rfl
  · rename_i h4
    rw [if_neg]
    intro hok
    have hkl : k < l.length := by omega
    have e : (l.drop k).headD 0 = l[k] := by rw [List.drop_eq_getElem_cons hkl]; rfl
    rw [e] at h
    unfold okD at hok
    rw [List.all_eq_true] at hok
    have := hok l[k] (by rw [List.mem_take_iff_getElem]; exact ⟨k, by omega, rfl⟩)
    simp at this
    exact h this
set_option maxHeartbeats 8000000 in
set_option maxRecDepth 100000 in
theorem fourQ (l s : List UInt8) (R m : Nat) (hs : s.length ≤ 1000000) (w : World) (h : Rl w R s l m) : Calls Tryz.prog 121 #[.pointer (some ⟨R, 0, none⟩)] w fun x w' => FourP l s R m w x w' := by
  have HR := hid h
  have HNO := hid (four_no l)
  have HW5 : Hid (∀ l W, Rl W R s l m → Calls Tryz.prog 42 #[.pointer (some ⟨R, 0, none⟩), .int .i64 5] W fun x w' => x = .returned (.tuple #[]) ∧ Re w' R s m 5 ∧ W.grownBy w' (some R)) := fun l W hW => hW.wrong 5
  clear h
  go_enter Tryz.func121, Tryz.ntmps121
  go_wp2_with fail
  go_loopw [3, 4, 5, 6] (fun nv i cv dv wr => ∃ (k n : Nat), k ≤ 4 ∧ i = .int .i64 (k : Int) ∧ nv = .int .i64 (n : Int) ∧ n < 16 ^ k ∧ Hid (k ≤ l.length ∧ okD 16 (l.take k) = true ∧ numE 16 (l.take k) = n) ∧ Hid (Rl wr R s (l.drop k) m) ∧ Hid (w.grownBy wr (some R))) (fun nv i cv dv wr => 4 - (intOf i).toNat)
  case atStart => exact ⟨0, 0, by omega, rfl, rfl, by decide, ⟨Nat.zero_le _, rfl, rfl⟩, HR.out, to_refl R w⟩
  case round =>
    clear HR
    obtain ⟨k, n, hk, rfl, rfl, hn, HK, HRk, HG⟩ := hrel
    have hpw : 16 ^ k ≤ 65536 := Nat.le_trans (Nat.pow_le_pow_right (by decide) hk) (by decide)
    by_cases hlt : k < 4
    · have hi : (k : Int) < 4 := by omega
      have hpw2 : 16 ^ k ≤ 4096 := Nat.le_trans (Nat.pow_le_pow_right (by decide) (show k ≤ 3 by omega)) (by decide)
      have hpw3 : 16 ^ (k + 1) = 16 ^ k * 16 := Nat.pow_succ _ _
      have HN := hid HRk.out.now
      have HNOk := hid (HNO.out k hlt)
      have HYES : Hid (digE ((l.drop k).headD 0) < 16 → ∃ c, l.drop k = c :: l.drop (k + 1) ∧ k + 1 ≤ l.length ∧ okD 16 (l.take (k + 1)) = true ∧ numE 16 (l.take (k + 1)) = n * 16 + digE ((l.drop k).headD 0)) := fun hd => by
        obtain ⟨u1, u2, u3⟩ := HK.out
        have hkl : k < l.length := by
          by_cases hkl : k < l.length
          · exact hkl
          · rw [List.drop_of_length_le (by omega)] at hd
            exact absurd hd (by decide)
        have e : (l.drop k).headD 0 = l[k] := by rw [List.drop_eq_getElem_cons hkl]; rfl
        rw [e] at hd ⊢
        refine ⟨l[k], List.drop_eq_getElem_cons hkl, hkl, ?_, ?_⟩
        · rw [List.take_succ_eq_append_getElem hkl, okQ_snoc, u2, decide_eq_true hd]; rfl
        · rw [List.take_succ_eq_append_getElem hkl, numEQ_snoc, u3]
      have HDE : Hid (∀ c : UInt8, digE c = if 48 ≤ c.toNat ∧ c.toNat ≤ 57 then c.toNat - 48 else if 97 ≤ c.toNat ∧ c.toNat ≤ 102 then c.toNat - 97 + 10 else if 65 ≤ c.toNat ∧ c.toNat ≤ 70 then c.toNat - 65 + 10 else 99) := fun c => rfl
      have hde := HDE.out ((l.drop k).headD 0)
      have hcl := ((l.drop k).headD 0).toNat_lt
      generalize digE ((l.drop k).headD 0) = de at HNOk HYES hde
      generalize ((l.drop k).headD 0).toNat = cn at HN hde hcl
      clear HNO HDE HK
      by_cases k0 : cn ≤ 57 ∧ 48 ≤ cn
      · skip
        have g0 : (48 : Int) ≤ (cn : Int) := by omega
        have g1 : (cn : Int) ≤ 57 := by omega
        have hdv : de = cn - 48 := by rw [hde]; (repeat (first | rw [if_pos (by omega)] | rw [if_neg (by omega)]))
        have hd16 : de < 16 := by omega
        obtain ⟨c, e1, e2, e3, e4⟩ := HYES.out hd16
        have HK2 : Hid (k + 1 ≤ l.length ∧ okD 16 (l.take (k + 1)) = true ∧ numE 16 (l.take (k + 1)) = n * 16 + de) := ⟨e2, e3, e4⟩
        rw [e1] at HRk
        have hrow := HRk.out.row5.1
        have HNEXT : Hid (∀ w', Rq w' R s (s.length - (c :: l.drop (k + 1)).length + 1) m 0 → Rl w' R s (l.drop (k + 1)) m) := fun w' h2 => HRk.out.next h2
        have hp : s.length - (c :: l.drop (k + 1)).length ≤ 1000000 := by omega
        generalize s.length - (c :: l.drop (k + 1)).length = p at hrow HNEXT hp
        have HROW := hid hrow
        clear HYES HNOk HRk hrow hde e1 e2 e3 e4 HW5
        go_wp2_with fail
        refine HN.out.mono ?_
        rintro e W1 ⟨rfl, hb⟩
        have hr1 := HROW.out.below hb
        obtain ⟨_, f1, _, _⟩ := hr1.cells
        have HG1 := hid (HG.out.trans (to_below hb))
        unfold Rq at hr1
        have HR1 := hid hr1
        clear hb hr1 HN HROW
        go_wp2_with (first
          | (refine store_part rfl 3 _ _ rfl R 1 (.int .i64 ((p : Int) + 1)) _ _ #[.string (asS s), .int .i64 ((p : Int) + 1), .int .i64 m, .int .i64 ((0 : Nat) : Int)] rfl rfl info3q (by simp) rfl rfl HR1.out rfl ?_)
          | fail)
        intro W2 ho hr
        have HR2 : Hid (Rl W2 R s (l.drop (k + 1)) m) := HNEXT.out W2 (by unfold Rq; rw [show ((p + 1 : Nat) : Int) = (p : Int) + 1 from by omega]; exact hr)
        have HG2 := hid (HG1.out.trans (to_only ho))
        clear ho hr HNEXT
        go_wp2_with fail
        go_roundw
        case rel => exact ⟨k + 1, n * 16 + de, by omega, by go_num, by rw [hdv]; go_num, by omega, HK2, HR2, HG2⟩
        case measure => simp [intOf]; omega
      by_cases k1 : 97 ≤ cn ∧ cn ≤ 102
      · skip
        have g0 : (48 : Int) ≤ (cn : Int) := by omega
        have g1 : ¬ (cn : Int) ≤ 57 := by omega
        have g1' : decide ((cn : Int) ≤ 57) = false := decide_eq_false g1
        have g2 : (97 : Int) ≤ (cn : Int) := by omega
        have g3 : (cn : Int) ≤ 102 := by omega
        have hdv : de = cn - 97 + 10 := by rw [hde]; (repeat (first | rw [if_pos (by omega)] | rw [if_neg (by omega)]))
        have hd16 : de < 16 := by omega
        obtain ⟨c, e1, e2, e3, e4⟩ := HYES.out hd16
        have HK2 : Hid (k + 1 ≤ l.length ∧ okD 16 (l.take (k + 1)) = true ∧ numE 16 (l.take (k + 1)) = n * 16 + de) := ⟨e2, e3, e4⟩
        rw [e1] at HRk
        have hrow := HRk.out.row5.1
        have HNEXT : Hid (∀ w', Rq w' R s (s.length - (c :: l.drop (k + 1)).length + 1) m 0 → Rl w' R s (l.drop (k + 1)) m) := fun w' h2 => HRk.out.next h2
        have hp : s.length - (c :: l.drop (k + 1)).length ≤ 1000000 := by omega
        generalize s.length - (c :: l.drop (k + 1)).length = p at hrow HNEXT hp
        have HROW := hid hrow
        clear HYES HNOk HRk hrow hde e1 e2 e3 e4 HW5
        go_wp2_with fail
        refine HN.out.mono ?_
        rintro e W1 ⟨rfl, hb⟩
        have hr1 := HROW.out.below hb
        obtain ⟨_, f1, _, _⟩ := hr1.cells
        have HG1 := hid (HG.out.trans (to_below hb))
        unfold Rq at hr1
        have HR1 := hid hr1
        clear hb hr1 HN HROW
        go_wp2_with (first
          | (refine store_part rfl 3 _ _ rfl R 1 (.int .i64 ((p : Int) + 1)) _ _ #[.string (asS s), .int .i64 ((p : Int) + 1), .int .i64 m, .int .i64 ((0 : Nat) : Int)] rfl rfl info3q (by simp) rfl rfl HR1.out rfl ?_)
          | fail)
        intro W2 ho hr
        have HR2 : Hid (Rl W2 R s (l.drop (k + 1)) m) := HNEXT.out W2 (by unfold Rq; rw [show ((p + 1 : Nat) : Int) = (p : Int) + 1 from by omega]; exact hr)
        have HG2 := hid (HG1.out.trans (to_only ho))
        clear ho hr HNEXT
        go_wp2_with fail
        go_roundw
        case rel => exact ⟨k + 1, n * 16 + de, by omega, by go_num, by rw [hdv]; go_num, by omega, HK2, HR2, HG2⟩
        case measure => simp [intOf]; omega
      by_cases k2 : 65 ≤ cn ∧ cn ≤ 70
      · skip
        have g0 : (48 : Int) ≤ (cn : Int) := by omega
        have g1 : ¬ (cn : Int) ≤ 57 := by omega
        have g1' : decide ((cn : Int) ≤ 57) = false := decide_eq_false g1
        have g2 : ¬ (97 : Int) ≤ (cn : Int) := by omega
        have g2' : decide ((97 : Int) ≤ (cn : Int)) = false := decide_eq_false g2
        have g3 : (65 : Int) ≤ (cn : Int) := by omega
        have g4 : (cn : Int) ≤ 70 := by omega
        have hdv : de = cn - 65 + 10 := by rw [hde]; (repeat (first | rw [if_pos (by omega)] | rw [if_neg (by omega)]))
        have hd16 : de < 16 := by omega
        obtain ⟨c, e1, e2, e3, e4⟩ := HYES.out hd16
        have HK2 : Hid (k + 1 ≤ l.length ∧ okD 16 (l.take (k + 1)) = true ∧ numE 16 (l.take (k + 1)) = n * 16 + de) := ⟨e2, e3, e4⟩
        rw [e1] at HRk
        have hrow := HRk.out.row5.1
        have HNEXT : Hid (∀ w', Rq w' R s (s.length - (c :: l.drop (k + 1)).length + 1) m 0 → Rl w' R s (l.drop (k + 1)) m) := fun w' h2 => HRk.out.next h2
        have hp : s.length - (c :: l.drop (k + 1)).length ≤ 1000000 := by omega
        generalize s.length - (c :: l.drop (k + 1)).length = p at hrow HNEXT hp
        have HROW := hid hrow
        clear HYES HNOk HRk hrow hde e1 e2 e3 e4 HW5
        go_wp2_with fail
        refine HN.out.mono ?_
        rintro e W1 ⟨rfl, hb⟩
        have hr1 := HROW.out.below hb
        obtain ⟨_, f1, _, _⟩ := hr1.cells
        have HG1 := hid (HG.out.trans (to_below hb))
        unfold Rq at hr1
        have HR1 := hid hr1
        clear hb hr1 HN HROW
        go_wp2_with (first
          | (refine store_part rfl 3 _ _ rfl R 1 (.int .i64 ((p : Int) + 1)) _ _ #[.string (asS s), .int .i64 ((p : Int) + 1), .int .i64 m, .int .i64 ((0 : Nat) : Int)] rfl rfl info3q (by simp) rfl rfl HR1.out rfl ?_)
          | fail)
        intro W2 ho hr
        have HR2 : Hid (Rl W2 R s (l.drop (k + 1)) m) := HNEXT.out W2 (by unfold Rq; rw [show ((p + 1 : Nat) : Int) = (p : Int) + 1 from by omega]; exact hr)
        have HG2 := hid (HG1.out.trans (to_only ho))
        clear ho hr HNEXT
        go_wp2_with fail
        go_roundw
        case rel => exact ⟨k + 1, n * 16 + de, by omega, by go_num, by rw [hdv]; go_num, by omega, HK2, HR2, HG2⟩
        case measure => simp [intOf]; omega
      by_cases k3 : cn < 48
      · skip
        have g0 : ¬ (48 : Int) ≤ (cn : Int) := by omega
        have g0' : decide ((48 : Int) ≤ (cn : Int)) = false := decide_eq_false g0
        have g1 : ¬ (97 : Int) ≤ (cn : Int) := by omega
        have g1' : decide ((97 : Int) ≤ (cn : Int)) = false := decide_eq_false g1
        have g2 : ¬ (65 : Int) ≤ (cn : Int) := by omega
        have g2' : decide ((65 : Int) ≤ (cn : Int)) = false := decide_eq_false g2
        have hd16 : ¬ de < 16 := by rw [hde]; (repeat (first | rw [if_pos (by omega)] | rw [if_neg (by omega)])); omega
        have HF := hid (HNOk.out hd16)
        clear HYES HNOk hde
        go_wp2_with fail
        refine HN.out.mono ?_
        rintro e W1 ⟨rfl, hb⟩
        have HW1 := hid (HW5.out _ W1 (HRk.out.below hb))
        have HG1 := hid (HG.out.trans (to_below hb))
        clear hb HN HW5
        go_wp2_with fail
        refine HW1.out.mono ?_
        rintro e W2 ⟨rfl, hr, hg⟩
        have HR2 := hid hr
        have HG2 := hid (HG1.out.trans hg)
        clear hr hg
        go_wp2_with fail
        go_ret
        exact FourP.no HF.out HR2.out HG2.out
      by_cases k4 : 58 ≤ cn ∧ cn ≤ 64
      · skip
        have g0 : (48 : Int) ≤ (cn : Int) := by omega
        have g1 : ¬ (cn : Int) ≤ 57 := by omega
        have g1' : decide ((cn : Int) ≤ 57) = false := decide_eq_false g1
        have g2 : ¬ (97 : Int) ≤ (cn : Int) := by omega
        have g2' : decide ((97 : Int) ≤ (cn : Int)) = false := decide_eq_false g2
        have g3 : ¬ (65 : Int) ≤ (cn : Int) := by omega
        have g3' : decide ((65 : Int) ≤ (cn : Int)) = false := decide_eq_false g3
        have hd16 : ¬ de < 16 := by rw [hde]; (repeat (first | rw [if_pos (by omega)] | rw [if_neg (by omega)])); omega
        have HF := hid (HNOk.out hd16)
        clear HYES HNOk hde
        go_wp2_with fail
        refine HN.out.mono ?_
        rintro e W1 ⟨rfl, hb⟩
        have HW1 := hid (HW5.out _ W1 (HRk.out.below hb))
        have HG1 := hid (HG.out.trans (to_below hb))
        clear hb HN HW5
        go_wp2_with fail
        refine HW1.out.mono ?_
        rintro e W2 ⟨rfl, hr, hg⟩
        have HR2 := hid hr
        have HG2 := hid (HG1.out.trans hg)
        clear hr hg
        go_wp2_with fail
        go_ret
        exact FourP.no HF.out HR2.out HG2.out
      by_cases k5 : 71 ≤ cn ∧ cn ≤ 96
      · skip
        have g0 : (48 : Int) ≤ (cn : Int) := by omega
        have g1 : ¬ (cn : Int) ≤ 57 := by omega
        have g1' : decide ((cn : Int) ≤ 57) = false := decide_eq_false g1
        have g2 : ¬ (97 : Int) ≤ (cn : Int) := by omega
        have g2' : decide ((97 : Int) ≤ (cn : Int)) = false := decide_eq_false g2
        have g3 : (65 : Int) ≤ (cn : Int) := by omega
        have g4 : ¬ (cn : Int) ≤ 70 := by omega
        have g4' : decide ((cn : Int) ≤ 70) = false := decide_eq_false g4
        have hd16 : ¬ de < 16 := by rw [hde]; (repeat (first | rw [if_pos (by omega)] | rw [if_neg (by omega)])); omega
        have HF := hid (HNOk.out hd16)
        clear HYES HNOk hde
        go_wp2_with fail
        refine HN.out.mono ?_
        rintro e W1 ⟨rfl, hb⟩
        have HW1 := hid (HW5.out _ W1 (HRk.out.below hb))
        have HG1 := hid (HG.out.trans (to_below hb))
        clear hb HN HW5
        go_wp2_with fail
        refine HW1.out.mono ?_
        rintro e W2 ⟨rfl, hr, hg⟩
        have HR2 := hid hr
        have HG2 := hid (HG1.out.trans hg)
        clear hr hg
        go_wp2_with fail
        go_ret
        exact FourP.no HF.out HR2.out HG2.out
      by_cases k6 : 103 ≤ cn
      · skip
        have g0 : (48 : Int) ≤ (cn : Int) := by omega
        have g1 : ¬ (cn : Int) ≤ 57 := by omega
        have g1' : decide ((cn : Int) ≤ 57) = false := decide_eq_false g1
        have g2 : (97 : Int) ≤ (cn : Int) := by omega
        have g3 : ¬ (cn : Int) ≤ 102 := by omega
        have g3' : decide ((cn : Int) ≤ 102) = false := decide_eq_false g3
        have g4 : (65 : Int) ≤ (cn : Int) := by omega
        have g5 : ¬ (cn : Int) ≤ 70 := by omega
        have g5' : decide ((cn : Int) ≤ 70) = false := decide_eq_false g5
        have hd16 : ¬ de < 16 := by rw [hde]; (repeat (first | rw [if_pos (by omega)] | rw [if_neg (by omega)])); omega
        have HF := hid (HNOk.out hd16)
        clear HYES HNOk hde
        go_wp2_with fail
        refine HN.out.mono ?_
        rintro e W1 ⟨rfl, hb⟩
        have HW1 := hid (HW5.out _ W1 (HRk.out.below hb))
        have HG1 := hid (HG.out.trans (to_below hb))
        clear hb HN HW5
        go_wp2_with fail
        refine HW1.out.mono ?_
        rintro e W2 ⟨rfl, hr, hg⟩
        have HR2 := hid hr
        have HG2 := hid (HG1.out.trans hg)
        clear hr hg
        go_wp2_with fail
        go_ret
        exact FourP.no HF.out HR2.out HG2.out
      omega
    · have hi : ¬ (k : Int) < 4 := by omega
      obtain rfl : k = 4 := by omega
      have HY : Hid (fourJ l = some (n, l.drop 4)) := by
        show _ = _
        obtain ⟨u1, u2, u3⟩ := HK.out
        unfold fourJ
        rw [if_neg (by omega), if_pos u2, u3]
      have hn2 : n < 65536 := by omega
      go_wp2_with fail
      go_ret
      exact FourP.yes HY.out hn2 HRk.out HG.out
end Go.Proofs.YtlgkbdebpnbndaaGreatDoor
namespace Go.Proofs.YtlgkbdebpnbndaaGreatDoor
set_option linter.unusedVariables false
set_option linter.unusedSimpArgs false
open Go.RowKit Go.BigFrame

/-- What escape does. -/
def EscP (l s : List UInt8) (R m : Nat) (w : World) (x : Ending) (w' : World) : Prop :=
  (∀ v r, escJ l = some (v, r) → x = .returned (.string (asS (encL v))) ∧ Rl w' R s r m) ∧ (escJ l = none → x = .returned (.string ⟨#[]⟩) ∧ Re w' R s m 5) ∧ w.grownBy w' (some R)
theorem EscP.no {l s : List UInt8} {R m : Nat} {w w' : World} (h : escJ l = none) (hr : Re w' R s m 5) (hg : w.grownBy w' (some R)) : EscP l s R m w (.returned (.string ⟨#[]⟩)) w' := ⟨fun n r h2 => (by rw [h] at h2; cases h2), fun _ => ⟨rfl, hr⟩, hg⟩
theorem EscP.yes {l s r : List UInt8} {R m v : Nat} {w w' : World} {S : ByteArray} (h : escJ l = some (v, r)) (hS : S = asS (encL v)) (hr : Rl w' R s r m) (hg : w.grownBy w' (some R)) : EscP l s R m w (.returned (.string S)) w' := ⟨fun a b h2 => (by rw [h] at h2; injection h2 with h2; injection h2 with h3 h4; subst h3 h4 hS; exact ⟨rfl, hr⟩), fun h2 => (by rw [h] at h2; cases h2), hg⟩
theorem pre_bu (l : List UInt8) : preX [92, 117] l = (preX [92] l && preX [117] (l.drop 1)) := by
  cases l with
  | nil => rfl
  | cons c r =>
    show ((92 == c) && preX [117] r) = (((92 == c) && true) && preX [117] r)
    rw [Bool.and_true]
theorem uni_none {l : List UInt8} (h : fourJ l = none) : uniJ l = none := by unfold uniJ; rw [h]
theorem uni_one {l r : List UInt8} {a : Nat} (h : fourJ l = some (a, r)) (ha : a < 55296 ∨ 57344 ≤ a) : uniJ l = some (a, r) := by unfold uniJ; rw [h]; exact if_pos ha
theorem uni_low {l r : List UInt8} {a : Nat} (h : fourJ l = some (a, r)) (ha : 56320 ≤ a) (ha2 : a < 57344) : uniJ l = none := by
  unfold uniJ
  rw [h]
  show (if a < 55296 ∨ 57344 ≤ a then _ else _) = _
  rw [if_neg (by omega)]
  split
  · split
    · rfl
    · exact if_pos (.inl ha)
  · rfl
theorem uni_np {l r : List UInt8} {a : Nat} (h : fourJ l = some (a, r)) (ha : 55296 ≤ a) (ha2 : a < 56320) (hp : preX [92, 117] r = false) : uniJ l = none := by
  unfold uniJ
  rw [h]
  show (if a < 55296 ∨ 57344 ≤ a then _ else _) = _
  rw [if_neg (by omega), hp]
  rfl
theorem uni_n2 {l r : List UInt8} {a : Nat} (h : fourJ l = some (a, r)) (ha : 55296 ≤ a) (ha2 : a < 56320) (h2 : fourJ (r.drop 2) = none) : uniJ l = none := by
  unfold uniJ
  rw [h]
  show (if a < 55296 ∨ 57344 ≤ a then _ else _) = _
  rw [if_neg (by omega), h2]
  split <;> rfl
theorem uni_nb {l r r2 : List UInt8} {a b : Nat} (h : fourJ l = some (a, r)) (ha : 55296 ≤ a) (ha2 : a < 56320) (h2 : fourJ (r.drop 2) = some (b, r2)) (hb : b < 56320 ∨ 57344 ≤ b) : uniJ l = none := by
  unfold uniJ
  rw [h]
  show (if a < 55296 ∨ 57344 ≤ a then _ else _) = _
  rw [if_neg (by omega), h2]
  split
  · exact if_pos (.inr hb)
  · rfl
theorem uni_two {l r r2 : List UInt8} {a b : Nat} (h : fourJ l = some (a, r)) (ha : 55296 ≤ a) (ha2 : a < 56320) (hp : preX [92, 117] r = true) (h2 : fourJ (r.drop 2) = some (b, r2)) (hb : 56320 ≤ b) (hb2 : b < 57344) : uniJ l = some (pairJ a b, r2) := by
  unfold uniJ
  rw [h]
  show (if a < 55296 ∨ 57344 ≤ a then _ else _) = _
  rw [if_neg (by omega), hp, if_pos rfl, h2]
  show (if 56320 ≤ a ∨ b < 56320 ∨ 57344 ≤ b then _ else _) = _
  rw [if_neg (by omega)]
theorem utfS_yes {v : Nat} (h : validR v = true) : utfS v = encL v := if_pos h
theorem utfS_no {v : Nat} (h : validR v = false) : utfS v = [] := if_neg (by rw [h]; simp)
theorem four_lt {l r : List UInt8} {n : Nat} (h : fourJ l = some (n, r)) : n < 65536 := by
  unfold fourJ at h
  split at h
  · cases h
  · rename_i h4
    split at h
    · rename_i hok
      injection h with h
      injection h with h1 _
      rw [← h1]
      have hl : (l.take 4).length = 4 := by rw [List.length_take]; omega
      generalize l.take 4 = q at hok hl
      have key : ∀ (q : List UInt8) (a : Nat), okD 16 q = true → q.foldl (fun a c => a * 16 + digE c) a < (a + 1) * 16 ^ q.length := by
        intro q
        induction q with
        | nil => intro a _; simp
        | cons c q ih =>
          intro a ho
          have ho2 : digE c < 16 ∧ okD 16 q = true := by
            unfold okD at ho ⊢
            rw [List.all_cons, Bool.and_eq_true, decide_eq_true_eq] at ho
            exact ho
          have h1 := ih (a * 16 + digE c) ho2.2
          have h2 : (a * 16 + digE c + 1) * 16 ^ q.length ≤ ((a + 1) * 16) * 16 ^ q.length := Nat.mul_le_mul_right _ (by omega)
          rw [List.foldl_cons, List.length_cons, Nat.pow_succ, Nat.mul_comm (16 ^ q.length) 16, ← Nat.mul_assoc]
          exact Nat.lt_of_lt_of_le h1 h2
      have := key q 0 hok
      rw [hl] at this
      exact this
    · cases h
set_option maxHeartbeats 16000000 in
set_option maxRecDepth 100000 in
theorem escapeQ (l s : List UInt8) (R m : Nat) (hs : s.length ≤ 1000000) (w : World) (h : Rl w R s l m) : Calls Tryz.prog 97 #[.pointer (some ⟨R, 0, none⟩)] w fun x w' => EscP l s R m w x w' := by
  have HN := hid h.now
  have hrow := h.row5.1
  have hlen := h.len
  have hp : s.length - l.length ≤ 1000000 := by omega
  have HERR : Hid (∀ w', Rq w' R s (s.length - l.length + 1) m 0 → Calls Tryz.prog 42 #[.pointer (some ⟨R, 0, none⟩), .int .i64 5] w' fun x w2 => x = .returned (.tuple #[]) ∧ Re w2 R s m 5 ∧ w'.grownBy w2 (some R)) := fun w' h2 => (wrongQ s _ m 0 5 R w' h2).mono fun x w2 hh => ⟨hh.1, ⟨_, by omega, hh.2.1⟩, to_only hh.2.2⟩
  have HNEXT : Hid (∀ c r, l = c :: r → ∀ w', Rq w' R s (s.length - l.length + 1) m 0 → Rl w' R s r m) := fun c r e w' h2 => by subst e; exact h.next h2
  generalize s.length - l.length = p at hrow hp HERR HNEXT
  have HROW := hid hrow
  clear h hrow hlen
  cases l with
  | nil =>
    have hno : escJ [] = none := rfl
    have HNO := hid hno
    have hcn : (([] : List UInt8).headD 0).toNat = 0 := rfl
    rw [hcn] at HN
    clear hno hcn HNEXT
    go_enter Tryz.func97, Tryz.ntmps97
    go_wp2_with fail
    refine HN.out.mono ?_
    rintro e W1 ⟨rfl, hb⟩
    have hr1 := HROW.out.below hb
    obtain ⟨_, f1, _, _⟩ := hr1.cells
    have HG1 := hid (to_below (R := R) hb)
    unfold Rq at hr1
    have HR1 := hid hr1
    clear hb hr1 HN HROW
    go_wp2_with (first
      | (refine store_part rfl 3 _ _ rfl R 1 (.int .i64 ((p : Int) + 1)) _ _ #[.string (asS s), .int .i64 ((p : Int) + 1), .int .i64 m, .int .i64 ((0 : Nat) : Int)] rfl rfl info3q (by simp) rfl rfl HR1.out rfl ?_)
      | fail)
    intro W2 ho hr
    have hrq : Rq W2 R s (p + 1) m 0 := by unfold Rq; rw [show ((p + 1 : Nat) : Int) = (p : Int) + 1 from by omega]; exact hr
    have HG2 := hid (HG1.out.trans (to_only ho))
    have HW := hid (HERR.out W2 hrq)
    clear ho hr hrq HERR
    go_wp2_with fail
    refine HW.out.mono ?_
    rintro e W3 ⟨rfl, hr, hg⟩
    have HR3 := hid hr
    have HG3 := hid (HG2.out.trans hg)
    clear hr hg
    go_wp2_with fail
    go_ret
    exact EscP.no HNO.out HR3.out HG3.out
  | cons c r =>
    have HNX := hid (fun w' h2 => HNEXT.out c r rfl w' h2)
    have hhd : ((c :: r).headD 0).toNat = c.toNat := rfl
    rw [hhd] at HN
    clear HNEXT hhd
    by_cases c34 : c = 34
    · subst c34
      have HY : Hid (escJ (34 :: r) = some (34, r)) := rfl
      have hcn : (34 : UInt8).toNat = 34 := rfl
      rw [hcn] at HN
      go_enter Tryz.func97, Tryz.ntmps97
      go_wp2_with fail
      refine HN.out.mono ?_
      rintro e W1 ⟨rfl, hb⟩
      have hr1 := HROW.out.below hb
      obtain ⟨_, f1, _, _⟩ := hr1.cells
      have HG1 := hid (to_below (R := R) hb)
      unfold Rq at hr1
      have HR1 := hid hr1
      clear hb hr1 HN HROW
      go_wp2_with (first
        | (refine store_part rfl 3 _ _ rfl R 1 (.int .i64 ((p : Int) + 1)) _ _ #[.string (asS s), .int .i64 ((p : Int) + 1), .int .i64 m, .int .i64 ((0 : Nat) : Int)] rfl rfl info3q (by simp) rfl rfl HR1.out rfl ?_)
        | fail)
      intro W2 ho hr
      have hrq : Rq W2 R s (p + 1) m 0 := by unfold Rq; rw [show ((p + 1 : Nat) : Int) = (p : Int) + 1 from by omega]; exact hr
      have HG2 := hid (HG1.out.trans (to_only ho))
      have HL2 := hid (HNX.out W2 hrq)
      clear ho hr hrq HERR HNX
      have hcv := conv_lit W2 [34] 1 rfl
      rw [show bcs [34] = #[Value.int .u8 34] from rfl] at hcv
      have hal : Below W2.heap.size W2 (W2.alloc (.cells #[Value.int .u8 34] 5)) := (Below.refl _ _).alloc (Nat.le_refl _) _
      have HL3 := hid (HL2.out.below hal)
      have HG3 := hid (HG2.out.trans (to_below (R := R) hal))
      clear hal
      go_wp2_with fail
      go_ret
      exact EscP.yes HY.out (by kernel_rfl) HL3.out HG3.out
    by_cases c92 : c = 92
    · subst c92
      have HY : Hid (escJ (92 :: r) = some (92, r)) := rfl
      have hcn : (92 : UInt8).toNat = 92 := rfl
      rw [hcn] at HN
      go_enter Tryz.func97, Tryz.ntmps97
      go_wp2_with fail
      refine HN.out.mono ?_
      rintro e W1 ⟨rfl, hb⟩
      have hr1 := HROW.out.below hb
      obtain ⟨_, f1, _, _⟩ := hr1.cells
      have HG1 := hid (to_below (R := R) hb)
      unfold Rq at hr1
      have HR1 := hid hr1
      clear hb hr1 HN HROW
      go_wp2_with (first
        | (refine store_part rfl 3 _ _ rfl R 1 (.int .i64 ((p : Int) + 1)) _ _ #[.string (asS s), .int .i64 ((p : Int) + 1), .int .i64 m, .int .i64 ((0 : Nat) : Int)] rfl rfl info3q (by simp) rfl rfl HR1.out rfl ?_)
        | fail)
      intro W2 ho hr
      have hrq : Rq W2 R s (p + 1) m 0 := by unfold Rq; rw [show ((p + 1 : Nat) : Int) = (p : Int) + 1 from by omega]; exact hr
      have HG2 := hid (HG1.out.trans (to_only ho))
      have HL2 := hid (HNX.out W2 hrq)
      clear ho hr hrq HERR HNX
      have hcv := conv_lit W2 [92] 1 rfl
      rw [show bcs [92] = #[Value.int .u8 92] from rfl] at hcv
      have hal : Below W2.heap.size W2 (W2.alloc (.cells #[Value.int .u8 92] 5)) := (Below.refl _ _).alloc (Nat.le_refl _) _
      have HL3 := hid (HL2.out.below hal)
      have HG3 := hid (HG2.out.trans (to_below (R := R) hal))
      clear hal
      go_wp2_with fail
      go_ret
      exact EscP.yes HY.out (by kernel_rfl) HL3.out HG3.out
    by_cases c47 : c = 47
    · subst c47
      have HY : Hid (escJ (47 :: r) = some (47, r)) := rfl
      have hcn : (47 : UInt8).toNat = 47 := rfl
      rw [hcn] at HN
      go_enter Tryz.func97, Tryz.ntmps97
      go_wp2_with fail
      refine HN.out.mono ?_
      rintro e W1 ⟨rfl, hb⟩
      have hr1 := HROW.out.below hb
      obtain ⟨_, f1, _, _⟩ := hr1.cells
      have HG1 := hid (to_below (R := R) hb)
      unfold Rq at hr1
      have HR1 := hid hr1
      clear hb hr1 HN HROW
      go_wp2_with (first
        | (refine store_part rfl 3 _ _ rfl R 1 (.int .i64 ((p : Int) + 1)) _ _ #[.string (asS s), .int .i64 ((p : Int) + 1), .int .i64 m, .int .i64 ((0 : Nat) : Int)] rfl rfl info3q (by simp) rfl rfl HR1.out rfl ?_)
        | fail)
      intro W2 ho hr
      have hrq : Rq W2 R s (p + 1) m 0 := by unfold Rq; rw [show ((p + 1 : Nat) : Int) = (p : Int) + 1 from by omega]; exact hr
      have HG2 := hid (HG1.out.trans (to_only ho))
      have HL2 := hid (HNX.out W2 hrq)
      clear ho hr hrq HERR HNX
      have hcv := conv_lit W2 [47] 1 rfl
      rw [show bcs [47] = #[Value.int .u8 47] from rfl] at hcv
      have hal : Below W2.heap.size W2 (W2.alloc (.cells #[Value.int .u8 47] 5)) := (Below.refl _ _).alloc (Nat.le_refl _) _
      have HL3 := hid (HL2.out.below hal)
      have HG3 := hid (HG2.out.trans (to_below (R := R) hal))
      clear hal
      go_wp2_with fail
      go_ret
      exact EscP.yes HY.out (by kernel_rfl) HL3.out HG3.out
    by_cases c98 : c = 98
    · subst c98
      have HY : Hid (escJ (98 :: r) = some (8, r)) := rfl
      have hcn : (98 : UInt8).toNat = 98 := rfl
      rw [hcn] at HN
      go_enter Tryz.func97, Tryz.ntmps97
      go_wp2_with fail
      refine HN.out.mono ?_
      rintro e W1 ⟨rfl, hb⟩
      have hr1 := HROW.out.below hb
      obtain ⟨_, f1, _, _⟩ := hr1.cells
      have HG1 := hid (to_below (R := R) hb)
      unfold Rq at hr1
      have HR1 := hid hr1
      clear hb hr1 HN HROW
      go_wp2_with (first
        | (refine store_part rfl 3 _ _ rfl R 1 (.int .i64 ((p : Int) + 1)) _ _ #[.string (asS s), .int .i64 ((p : Int) + 1), .int .i64 m, .int .i64 ((0 : Nat) : Int)] rfl rfl info3q (by simp) rfl rfl HR1.out rfl ?_)
        | fail)
      intro W2 ho hr
      have hrq : Rq W2 R s (p + 1) m 0 := by unfold Rq; rw [show ((p + 1 : Nat) : Int) = (p : Int) + 1 from by omega]; exact hr
      have HG2 := hid (HG1.out.trans (to_only ho))
      have HL2 := hid (HNX.out W2 hrq)
      clear ho hr hrq HERR HNX
      go_wp2_with fail
      go_ret
      exact EscP.yes HY.out (by kernel_rfl) HL2.out HG2.out
    by_cases c102 : c = 102
    · subst c102
      have HY : Hid (escJ (102 :: r) = some (12, r)) := rfl
      have hcn : (102 : UInt8).toNat = 102 := rfl
      rw [hcn] at HN
      go_enter Tryz.func97, Tryz.ntmps97
      go_wp2_with fail
      refine HN.out.mono ?_
      rintro e W1 ⟨rfl, hb⟩
      have hr1 := HROW.out.below hb
      obtain ⟨_, f1, _, _⟩ := hr1.cells
      have HG1 := hid (to_below (R := R) hb)
      unfold Rq at hr1
      have HR1 := hid hr1
      clear hb hr1 HN HROW
      go_wp2_with (first
        | (refine store_part rfl 3 _ _ rfl R 1 (.int .i64 ((p : Int) + 1)) _ _ #[.string (asS s), .int .i64 ((p : Int) + 1), .int .i64 m, .int .i64 ((0 : Nat) : Int)] rfl rfl info3q (by simp) rfl rfl HR1.out rfl ?_)
        | fail)
      intro W2 ho hr
      have hrq : Rq W2 R s (p + 1) m 0 := by unfold Rq; rw [show ((p + 1 : Nat) : Int) = (p : Int) + 1 from by omega]; exact hr
      have HG2 := hid (HG1.out.trans (to_only ho))
      have HL2 := hid (HNX.out W2 hrq)
      clear ho hr hrq HERR HNX
      go_wp2_with fail
      go_ret
      exact EscP.yes HY.out (by kernel_rfl) HL2.out HG2.out
    by_cases c110 : c = 110
    · subst c110
      have HY : Hid (escJ (110 :: r) = some (10, r)) := rfl
      have hcn : (110 : UInt8).toNat = 110 := rfl
      rw [hcn] at HN
      go_enter Tryz.func97, Tryz.ntmps97
      go_wp2_with fail
      refine HN.out.mono ?_
      rintro e W1 ⟨rfl, hb⟩
      have hr1 := HROW.out.below hb
      obtain ⟨_, f1, _, _⟩ := hr1.cells
      have HG1 := hid (to_below (R := R) hb)
      unfold Rq at hr1
      have HR1 := hid hr1
      clear hb hr1 HN HROW
      go_wp2_with (first
        | (refine store_part rfl 3 _ _ rfl R 1 (.int .i64 ((p : Int) + 1)) _ _ #[.string (asS s), .int .i64 ((p : Int) + 1), .int .i64 m, .int .i64 ((0 : Nat) : Int)] rfl rfl info3q (by simp) rfl rfl HR1.out rfl ?_)
        | fail)
      intro W2 ho hr
      have hrq : Rq W2 R s (p + 1) m 0 := by unfold Rq; rw [show ((p + 1 : Nat) : Int) = (p : Int) + 1 from by omega]; exact hr
      have HG2 := hid (HG1.out.trans (to_only ho))
      have HL2 := hid (HNX.out W2 hrq)
      clear ho hr hrq HERR HNX
      go_wp2_with fail
      go_ret
      exact EscP.yes HY.out (by kernel_rfl) HL2.out HG2.out
    by_cases c114 : c = 114
    · subst c114
      have HY : Hid (escJ (114 :: r) = some (13, r)) := rfl
      have hcn : (114 : UInt8).toNat = 114 := rfl
      rw [hcn] at HN
      go_enter Tryz.func97, Tryz.ntmps97
      go_wp2_with fail
      refine HN.out.mono ?_
      rintro e W1 ⟨rfl, hb⟩
      have hr1 := HROW.out.below hb
      obtain ⟨_, f1, _, _⟩ := hr1.cells
      have HG1 := hid (to_below (R := R) hb)
      unfold Rq at hr1
      have HR1 := hid hr1
      clear hb hr1 HN HROW
      go_wp2_with (first
        | (refine store_part rfl 3 _ _ rfl R 1 (.int .i64 ((p : Int) + 1)) _ _ #[.string (asS s), .int .i64 ((p : Int) + 1), .int .i64 m, .int .i64 ((0 : Nat) : Int)] rfl rfl info3q (by simp) rfl rfl HR1.out rfl ?_)
        | fail)
      intro W2 ho hr
      have hrq : Rq W2 R s (p + 1) m 0 := by unfold Rq; rw [show ((p + 1 : Nat) : Int) = (p : Int) + 1 from by omega]; exact hr
      have HG2 := hid (HG1.out.trans (to_only ho))
      have HL2 := hid (HNX.out W2 hrq)
      clear ho hr hrq HERR HNX
      go_wp2_with fail
      go_ret
      exact EscP.yes HY.out (by kernel_rfl) HL2.out HG2.out
    by_cases c116 : c = 116
    · subst c116
      have HY : Hid (escJ (116 :: r) = some (9, r)) := rfl
      have hcn : (116 : UInt8).toNat = 116 := rfl
      rw [hcn] at HN
      go_enter Tryz.func97, Tryz.ntmps97
      go_wp2_with fail
      refine HN.out.mono ?_
      rintro e W1 ⟨rfl, hb⟩
      have hr1 := HROW.out.below hb
      obtain ⟨_, f1, _, _⟩ := hr1.cells
      have HG1 := hid (to_below (R := R) hb)
      unfold Rq at hr1
      have HR1 := hid hr1
      clear hb hr1 HN HROW
      go_wp2_with (first
        | (refine store_part rfl 3 _ _ rfl R 1 (.int .i64 ((p : Int) + 1)) _ _ #[.string (asS s), .int .i64 ((p : Int) + 1), .int .i64 m, .int .i64 ((0 : Nat) : Int)] rfl rfl info3q (by simp) rfl rfl HR1.out rfl ?_)
        | fail)
      intro W2 ho hr
      have hrq : Rq W2 R s (p + 1) m 0 := by unfold Rq; rw [show ((p + 1 : Nat) : Int) = (p : Int) + 1 from by omega]; exact hr
      have HG2 := hid (HG1.out.trans (to_only ho))
      have HL2 := hid (HNX.out W2 hrq)
      clear ho hr hrq HERR HNX
      go_wp2_with fail
      go_ret
      exact EscP.yes HY.out (by kernel_rfl) HL2.out HG2.out
    by_cases c117 : c = 117
    · subst c117
      have hcn : (117 : UInt8).toNat = 117 := rfl
      rw [hcn] at HN
      have HU : Hid (escJ (117 :: r) = uniJ r) := rfl
      go_enter Tryz.func97, Tryz.ntmps97
      go_wp2_with fail
      refine HN.out.mono ?_
      rintro e W1 ⟨rfl, hb⟩
      have hr1 := HROW.out.below hb
      obtain ⟨_, f1, _, _⟩ := hr1.cells
      have HG1 := hid (to_below (R := R) hb)
      unfold Rq at hr1
      have HR1 := hid hr1
      clear hb hr1 HN HROW
      go_wp2_with (first
        | (refine store_part rfl 3 _ _ rfl R 1 (.int .i64 ((p : Int) + 1)) _ _ #[.string (asS s), .int .i64 ((p : Int) + 1), .int .i64 m, .int .i64 ((0 : Nat) : Int)] rfl rfl info3q (by simp) rfl rfl HR1.out rfl ?_)
        | fail)
      intro W2 ho hr
      have hrq : Rq W2 R s (p + 1) m 0 := by unfold Rq; rw [show ((p + 1 : Nat) : Int) = (p : Int) + 1 from by omega]; exact hr
      have HG2 := hid (HG1.out.trans (to_only ho))
      have HL2 := hid (HNX.out W2 hrq)
      clear ho hr hrq HERR HNX
      have HF4 := hid (fun l W (hW : Rl W R s l m) => fourQ l s R m hs W hW)
      have HPB : Hid (∀ l W, Rl W R s l m → Calls Tryz.prog 96 #[.pointer (some ⟨R, 0, none⟩), .int .u8 92] W fun x w' => x = .returned (.bool (preX [92] l)) ∧ Rl w' R s (passJ [92] l) m ∧ W.grownBy w' (some R)) := fun l W hW => hW.past 92 hs
      have HPU : Hid (∀ l W, Rl W R s l m → Calls Tryz.prog 96 #[.pointer (some ⟨R, 0, none⟩), .int .u8 117] W fun x w' => x = .returned (.bool (preX [117] l)) ∧ Rl w' R s (passJ [117] l) m ∧ W.grownBy w' (some R)) := fun l W hW => hW.past 117 hs
      have HF1 := hid (HF4.out r W2 HL2.out)
      clear HL2
      cases h4 : fourJ r with
      | none =>
        have HNO : Hid (escJ (117 :: r) = none) := HU.out.trans (uni_none h4)
        have HC : Hid (Calls Tryz.prog 121 #[.pointer (some ⟨R, 0, none⟩)] W2 fun x w' => x = .returned (.int .i64 (-1)) ∧ Re w' R s m 5 ∧ W2.grownBy w' (some R)) := HF1.out.mono fun x w' hh => ⟨(hh.2.1 h4).1, (hh.2.1 h4).2, hh.2.2⟩
        clear HF1 HF4 HPB HPU HU h4
        go_wp2_with fail
        refine HC.out.mono ?_
        rintro e W3 ⟨rfl, hr, hg⟩
        have HR3 := hid hr
        have HG3 := hid (HG2.out.trans hg)
        have HU8 := hid (Utf8_neg W3)
        clear hr hg HC
        go_wp2_with fail
        refine HU8.out.mono ?_
        rintro e W4 ⟨rfl, hb⟩
        have HW := hid ((HR3.out.below hb).wrong (by decide) 5)
        have HGX := hid (HG3.out.trans (to_below (R := R) hb))
        clear hb HU8
        go_wp2_with fail
        refine HW.out.mono ?_
        rintro e W5 ⟨rfl, hr, hg⟩
        have HR5 := hid hr
        have HG5 := hid (HGX.out.trans hg)
        clear hr hg
        go_wp2_with fail
        go_ret
        exact EscP.no HNO.out HR5.out HG5.out
      | some q =>
        obtain ⟨a, r1⟩ := q
        have ha : a < 65536 ∧ Calls Tryz.prog 121 #[.pointer (some ⟨R, 0, none⟩)] W2 fun x w' => x = .returned (.int .i64 (a : Nat)) ∧ Rl w' R s r1 m ∧ W2.grownBy w' (some R) := ⟨four_lt h4, HF1.out.mono fun x w' hh => ⟨(hh.1 a r1 h4).1, (hh.1 a r1 h4).2.1, hh.2.2⟩⟩
        obtain ⟨ha, hc⟩ := ha
        have HC := hid hc
        have H4 := hid h4
        clear HF1 hc h4
        by_cases hsu : 55296 ≤ a ∧ a < 56320
        · obtain ⟨hs1, hs2⟩ := hsu
          have g1 : (55296 : Int) ≤ (a : Int) := by omega
          have g2 : (a : Int) < 56320 := by omega
          go_wp2_with fail
          refine HC.out.mono ?_
          rintro e W3 ⟨rfl, hr, hg⟩
          have HG3 := hid (HG2.out.trans hg)
          have HP3 := hid (HPB.out r1 W3 hr)
          clear hr hg HC HPB
          cases hb1 : preX [92] r1 with
          | false =>
            have HNO : Hid (escJ (117 :: r) = none) := HU.out.trans (uni_np H4.out hs1 hs2 (by rw [pre_bu, hb1]; rfl))
            rw [hb1] at HP3
            clear HPU HF4 HU H4 hb1
            go_wp2_with fail
            refine HP3.out.mono ?_
            rintro e W4 ⟨rfl, hr, hg⟩
            have HGX := hid (HG3.out.trans hg)
            have HW := hid (hr.wrong 5)
            clear hr hg HP3
            go_wp2_with fail
            refine HW.out.mono ?_
            rintro e W5 ⟨rfl, hr, hg⟩
            have HR5 := hid hr
            have HG5 := hid (HGX.out.trans hg)
            clear hr hg
            go_wp2_with fail
            go_ret
            exact EscP.no HNO.out HR5.out HG5.out
          | true =>
            rw [hb1, passJ_yes hb1] at HP3
            cases hb2 : preX [117] (r1.drop 1) with
            | false =>
              have HNO : Hid (escJ (117 :: r) = none) := HU.out.trans (uni_np H4.out hs1 hs2 (by rw [pre_bu, hb1, hb2]; rfl))
              have HPU2 := hid (HPU.out (r1.drop 1))
              rw [hb2] at HPU2
              clear HPU HF4 HU H4 hb1 hb2
              go_wp2_with fail
              refine HP3.out.mono ?_
              rintro e W4 ⟨rfl, hr, hg⟩
              have HG4 := hid (HG3.out.trans hg)
              have HP4 := hid (HPU2.out W4 hr)
              clear hr hg HP3 HPU2
              go_wp2_with fail
              refine HP4.out.mono ?_
              rintro e W4 ⟨rfl, hr, hg⟩
              have HGX := hid (HG4.out.trans hg)
              have HW := hid (hr.wrong 5)
              clear hr hg HP4
              go_wp2_with fail
              refine HW.out.mono ?_
              rintro e W5 ⟨rfl, hr, hg⟩
              have HR5 := hid hr
              have HG5 := hid (HGX.out.trans hg)
              clear hr hg
              go_wp2_with fail
              go_ret
              exact EscP.no HNO.out HR5.out HG5.out
            | true =>
              have hbu : preX [92, 117] r1 = true := by rw [pre_bu, hb1, hb2]; rfl
              have HPU2 := hid (HPU.out (r1.drop 1))
              have hdd : (r1.drop 1).drop ([117] : List UInt8).length = r1.drop 2 := by rw [List.drop_drop]; rfl
              rw [hb2, passJ_yes hb2, hdd] at HPU2
              have HF2 := hid (HF4.out (r1.drop 2))
              have HBU := hid hbu
              clear HPU HF4 hb1 hb2 hdd hbu
              go_wp2_with fail
              refine HP3.out.mono ?_
              rintro e W4 ⟨rfl, hr, hg⟩
              have HG4 := hid (HG3.out.trans hg)
              have HP4 := hid (HPU2.out W4 hr)
              clear hr hg HP3 HPU2
              go_wp2_with fail
              refine HP4.out.mono ?_
              rintro e W6 ⟨rfl, hr, hg⟩
              have HG6 := hid (HG4.out.trans hg)
              have HF6 := hid (HF2.out W6 hr)
              clear hr hg HP4 HF2
              cases h5 : fourJ (r1.drop 2) with
              | none =>
                have HNO : Hid (escJ (117 :: r) = none) := HU.out.trans (uni_n2 H4.out hs1 hs2 h5)
                have HC : Hid (Calls Tryz.prog 121 #[.pointer (some ⟨R, 0, none⟩)] W6 fun x w' => x = .returned (.int .i64 (-1)) ∧ Re w' R s m 5 ∧ W6.grownBy w' (some R)) := HF6.out.mono fun x w' hh => ⟨(hh.2.1 h5).1, (hh.2.1 h5).2, hh.2.2⟩
                clear HF6 HU H4 h5 HBU
                go_wp2_with fail
                refine HC.out.mono ?_
                rintro e W7 ⟨rfl, hr, hg⟩
                have HGX := hid (HG6.out.trans hg)
                have HW := hid (hr.wrong (by decide) 5)
                clear hr hg HC
                go_wp2_with fail
                refine HW.out.mono ?_
                rintro e W5 ⟨rfl, hr, hg⟩
                have HR5 := hid hr
                have HG5 := hid (HGX.out.trans hg)
                clear hr hg
                go_wp2_with fail
                go_ret
                exact EscP.no HNO.out HR5.out HG5.out
              | some q2 =>
                obtain ⟨b, r2⟩ := q2
                have hbl : b < 65536 := four_lt h5
                have HC : Hid (Calls Tryz.prog 121 #[.pointer (some ⟨R, 0, none⟩)] W6 fun x w' => x = .returned (.int .i64 (b : Nat)) ∧ Rl w' R s r2 m ∧ W6.grownBy w' (some R)) := HF6.out.mono fun x w' hh => ⟨(hh.1 b r2 h5).1, (hh.1 b r2 h5).2.1, hh.2.2⟩
                clear HF6
                by_cases hb1 : b < 56320
                · have k1 : (b : Int) < 56320 := by omega
                  have HNO : Hid (escJ (117 :: r) = none) := HU.out.trans (uni_nb H4.out hs1 hs2 h5 (.inl hb1))
                  clear HU H4 h5 HBU
                  go_wp2_with fail
                  refine HC.out.mono ?_
                  rintro e W7 ⟨rfl, hr, hg⟩
                  have HGX := hid (HG6.out.trans hg)
                  have HW := hid (hr.wrong 5)
                  clear hr hg HC
                  go_wp2_with fail
                  refine HW.out.mono ?_
                  rintro e W5 ⟨rfl, hr, hg⟩
                  have HR5 := hid hr
                  have HG5 := hid (HGX.out.trans hg)
                  clear hr hg
                  go_wp2_with fail
                  go_ret
                  exact EscP.no HNO.out HR5.out HG5.out
                · have k1 : ¬ (b : Int) < 56320 := by omega
                  by_cases hb2 : 57343 < b
                  · have k2 : (57343 : Int) < (b : Int) := by omega
                    have HNO : Hid (escJ (117 :: r) = none) := HU.out.trans (uni_nb H4.out hs1 hs2 h5 (.inr (by omega)))
                    clear HU H4 h5 HBU
                    go_wp2_with fail
                    refine HC.out.mono ?_
                    rintro e W7 ⟨rfl, hr, hg⟩
                    have HGX := hid (HG6.out.trans hg)
                    have HW := hid (hr.wrong 5)
                    clear hr hg HC
                    go_wp2_with fail
                    refine HW.out.mono ?_
                    rintro e W5 ⟨rfl, hr, hg⟩
                    have HR5 := hid hr
                    have HG5 := hid (HGX.out.trans hg)
                    clear hr hg
                    go_wp2_with fail
                    go_ret
                    exact EscP.no HNO.out HR5.out HG5.out
                  · have k2 : ¬ (57343 : Int) < (b : Int) := by omega
                    have HY : Hid (escJ (117 :: r) = some (pairJ a b, r2)) := HU.out.trans (uni_two H4.out hs1 hs2 HBU.out h5 (by omega) (by omega))
                    obtain ⟨V, hV⟩ : ∃ V, pairJ a b = V := ⟨_, rfl⟩
                    have hVv : V = 65536 + (a - 55296) * 1024 + (b - 56320) := hV.symm
                    have hvr : validR V = true := validR_iff.2 (by omega)
                    obtain ⟨A, hA⟩ : ∃ A : Nat, A = a - 55296 := ⟨_, rfl⟩
                    obtain ⟨B, hB⟩ : ∃ B : Nat, B = A * 1024 := ⟨_, rfl⟩
                    obtain ⟨C, hC⟩ : ∃ C : Nat, C = 65536 + B := ⟨_, rfl⟩
                    obtain ⟨D, hD⟩ : ∃ D : Nat, D = C + b := ⟨_, rfl⟩
                    have z1 : (a : Int) - 55296 = (A : Int) := by omega
                    have z2 : (A : Int) * 1024 = (B : Int) := by omega
                    have z3 : 65536 + (B : Int) = (C : Int) := by omega
                    have z4 : (C : Int) + (b : Int) = (D : Int) := by omega
                    have z5 : (D : Int) - 56320 = (V : Int) := by omega
                    have y1 : A ≤ 1024 := by omega
                    have y2 : B ≤ 1048576 := by omega
                    have y3 : C ≤ 2000000 := by omega
                    have y4 : D ≤ 3000000 := by omega
                    have y5 : V ≤ 3000000 := by omega
                    have HU8 := hid (fun W => Utf8_any V (by omega) W)
                    rw [utfS_yes hvr, hvr] at HU8
                    rw [hV] at HY
                    clear HU H4 h5 HBU hV hvr hVv hA hB hC hD
                    go_wp2_with fail
                    refine HC.out.mono ?_
                    rintro e W7 ⟨rfl, hr, hg⟩
                    have HR7 := hid hr
                    have HG7 := hid (HG6.out.trans hg)
                    have HU9 := hid (HU8.out W7)
                    clear hr hg HC HU8 hs1 hs2 ha hbl hb1 hb2 g1 g2 hp hs
                    go_wp2_with fail
                    refine HU9.out.mono ?_
                    rintro e W8 ⟨rfl, hb⟩
                    have HR8 := hid (HR7.out.below hb)
                    have HG8 := hid (HG7.out.trans (to_below (R := R) hb))
                    clear hb HU9
                    go_wp2_with fail
                    go_ret
                    exact EscP.yes HY.out rfl HR8.out HG8.out
        · by_cases h1 : a < 55296
          · skip
            have g1 : ¬ (55296 : Int) ≤ (a : Int) := by omega
            have g1' : decide ((55296 : Int) ≤ (a : Int)) = false := decide_eq_false g1
            have HU8 := hid (fun W => Utf8_any a (by omega) W)
            have hvr : validR a = true := validR_iff.2 (by omega)
            have HY : Hid (escJ (117 :: r) = some (a, r1)) := HU.out.trans (uni_one H4.out (by omega))
            rw [utfS_yes hvr, hvr] at HU8
            clear HU H4 HPB HPU HF4 hvr
            go_wp2_with fail
            refine HC.out.mono ?_
            rintro e W3 ⟨rfl, hr, hg⟩
            have HR3 := hid hr
            have HG3 := hid (HG2.out.trans hg)
            have HU9 := hid (HU8.out W3)
            clear hr hg HC HU8
            go_wp2_with fail
            refine HU9.out.mono ?_
            rintro e W4 ⟨rfl, hb⟩
            have HR4 := hid (HR3.out.below hb)
            have HGX := hid (HG3.out.trans (to_below (R := R) hb))
            clear hb HU9
            go_wp2_with fail
            go_ret
            exact EscP.yes HY.out rfl HR4.out HGX.out
          · have g1 : (55296 : Int) ≤ (a : Int) := by omega
            have g2 : ¬ (a : Int) < 56320 := by omega
            have g2' : decide ((a : Int) < 56320) = false := decide_eq_false g2
            by_cases h2 : a < 57344
            · skip
              have HU8 := hid (fun W => Utf8_any a (by omega) W)
              have hvr : validR a = false := by
                cases hv : validR a with
                | false => rfl
                | true => have := validR_iff.1 hv; omega
              have HNO : Hid (escJ (117 :: r) = none) := HU.out.trans (uni_low H4.out (by omega) (by omega))
              rw [utfS_no hvr, hvr, show asS [] = ⟨#[]⟩ from rfl] at HU8
              clear HU H4 HPB HPU HF4 hvr
              go_wp2_with fail
              refine HC.out.mono ?_
              rintro e W3 ⟨rfl, hr, hg⟩
              have HR3 := hid hr
              have HG3 := hid (HG2.out.trans hg)
              have HU9 := hid (HU8.out W3)
              clear hr hg HC HU8
              go_wp2_with fail
              refine HU9.out.mono ?_
              rintro e W4 ⟨rfl, hb⟩
              have HR4 := hid (HR3.out.below hb)
              have HGX := hid (HG3.out.trans (to_below (R := R) hb))
              clear hb HU9
              have HW := hid (HR4.out.wrong 5)
              go_wp2_with fail
              refine HW.out.mono ?_
              rintro e W5 ⟨rfl, hr, hg⟩
              have HR5 := hid hr
              have HG5 := hid (HGX.out.trans hg)
              clear hr hg
              go_wp2_with fail
              go_ret
              exact EscP.no HNO.out HR5.out HG5.out
            · skip
              have HU8 := hid (fun W => Utf8_any a (by omega) W)
              have hvr : validR a = true := validR_iff.2 (by omega)
              have HY : Hid (escJ (117 :: r) = some (a, r1)) := HU.out.trans (uni_one H4.out (by omega))
              rw [utfS_yes hvr, hvr] at HU8
              clear HU H4 HPB HPU HF4 hvr
              go_wp2_with fail
              refine HC.out.mono ?_
              rintro e W3 ⟨rfl, hr, hg⟩
              have HR3 := hid hr
              have HG3 := hid (HG2.out.trans hg)
              have HU9 := hid (HU8.out W3)
              clear hr hg HC HU8
              go_wp2_with fail
              refine HU9.out.mono ?_
              rintro e W4 ⟨rfl, hb⟩
              have HR4 := hid (HR3.out.below hb)
              have HGX := hid (HG3.out.trans (to_below (R := R) hb))
              clear hb HU9
              go_wp2_with fail
              go_ret
              exact EscP.yes HY.out rfl HR4.out HGX.out
    have hne : plainE c = none ∧ c ≠ 117 := ⟨by unfold plainE; simp only [c34, c92, c47, c98, c102, c110, c114, c116, if_false], c117⟩
    have hno : escJ (c :: r) = none := by
      show (if c = 117 then _ else _) = _
      rw [if_neg hne.2, hne.1]
      rfl
    have HNO := hid hno
    have hcs : c.toNat ≠ 34 ∧ c.toNat ≠ 92 ∧ c.toNat ≠ 47 ∧ c.toNat ≠ 98 ∧ c.toNat ≠ 102 ∧ c.toNat ≠ 110 ∧ c.toNat ≠ 114 ∧ c.toNat ≠ 116 ∧ c.toNat ≠ 117 := ⟨(fun e => c34 (UInt8.toNat_inj.1 e)), (fun e => c92 (UInt8.toNat_inj.1 e)), (fun e => c47 (UInt8.toNat_inj.1 e)), (fun e => c98 (UInt8.toNat_inj.1 e)), (fun e => c102 (UInt8.toNat_inj.1 e)), (fun e => c110 (UInt8.toNat_inj.1 e)), (fun e => c114 (UInt8.toNat_inj.1 e)), (fun e => c116 (UInt8.toNat_inj.1 e)), (fun e => c117 (UInt8.toNat_inj.1 e))⟩
    clear hno hne
    generalize c.toNat = cn at HN hcs
    clear c34 c92 c47 c98 c102 c110 c114 c116 c117
    go_enter Tryz.func97, Tryz.ntmps97
    go_wp2_with fail
    refine HN.out.mono ?_
    rintro e W1 ⟨rfl, hb⟩
    have hr1 := HROW.out.below hb
    obtain ⟨_, f1, _, _⟩ := hr1.cells
    have HG1 := hid (to_below (R := R) hb)
    unfold Rq at hr1
    have HR1 := hid hr1
    clear hb hr1 HN HROW
    go_wp2_with (first
      | (refine store_part rfl 3 _ _ rfl R 1 (.int .i64 ((p : Int) + 1)) _ _ #[.string (asS s), .int .i64 ((p : Int) + 1), .int .i64 m, .int .i64 ((0 : Nat) : Int)] rfl rfl info3q (by simp) rfl rfl HR1.out rfl ?_)
      | fail)
    intro W2 ho hr
    have hrq : Rq W2 R s (p + 1) m 0 := by unfold Rq; rw [show ((p + 1 : Nat) : Int) = (p : Int) + 1 from by omega]; exact hr
    have HG2 := hid (HG1.out.trans (to_only ho))
    have HW := hid (HERR.out W2 hrq)
    clear ho hr hrq HERR HNX
    obtain ⟨v1, v2, v3, v4, v5, v6, v7, v8, v9⟩ := hcs
    have q34 : ((cn : Int) == 34) = false := by rw [beq_eq_false_iff_ne]; omega
    have q92 : ((cn : Int) == 92) = false := by rw [beq_eq_false_iff_ne]; omega
    have q47 : ((cn : Int) == 47) = false := by rw [beq_eq_false_iff_ne]; omega
    have q98 : ((cn : Int) == 98) = false := by rw [beq_eq_false_iff_ne]; omega
    have q102 : ((cn : Int) == 102) = false := by rw [beq_eq_false_iff_ne]; omega
    have q110 : ((cn : Int) == 110) = false := by rw [beq_eq_false_iff_ne]; omega
    have q114 : ((cn : Int) == 114) = false := by rw [beq_eq_false_iff_ne]; omega
    have q116 : ((cn : Int) == 116) = false := by rw [beq_eq_false_iff_ne]; omega
    have q117 : ((cn : Int) == 117) = false := by rw [beq_eq_false_iff_ne]; omega
    go_wp2_with fail
    refine HW.out.mono ?_
    rintro e W3 ⟨rfl, hr, hg⟩
    have HR3 := hid hr
    have HG3 := hid (HG2.out.trans hg)
    clear hr hg
    go_wp2_with fail
    go_ret
    exact EscP.no HNO.out HR3.out HG3.out
end Go.Proofs.YtlgkbdebpnbndaaGreatDoor
namespace Go.Proofs.YtlgkbdebpnbndaaGreatDoor
set_option linter.unusedVariables false
set_option linter.unusedSimpArgs false
open Go.RowKit Go.BigFrame

theorem src_oneQ (w : World) (a : UInt8) (x : Int) (hx : x = (a.toNat : Int)) : Src Tryz.prog 1 47 (.slice (some ⟨w.heap.size, 0, none⟩) 1 1) 1 (bvs [a]) (w.alloc (.cells #[.int .u8 x] 5)) := by
  subst hx
  exact src_bytes (l := [a]) (BytesAt.of_row (heap_alloc_new w (.cells (bcs [a]) 5))) 1 (fun _ => .inr ⟨_, rfl⟩)
theorem src_strQ (l : List UInt8) (W : World) : Src Tryz.prog 1 9 (.string (asS l)) l.length (bvs l) W := by
  have h := src_text W (asS l)
  rw [asS_size, asS_data] at h
  exact h
/-- How much a loop over the reader still has to do. -/
def mQ (n R : Nat) (w : World) : Nat := match w.cell? ⟨R, 3, none⟩ with
  | some (.int _ v) => if v = 0 then n + 1 - rqAt R w else 0
  | _ => 0
theorem mQ_rl {w : World} {R m : Nat} {s l : List UInt8} (h : Rl w R s l m) : mQ s.length R w = l.length + 1 := by
  have hr := h.row5.1
  have hl := h.len
  unfold mQ
  rw [hr.cells.2.2.2]
  simp only
  rw [if_pos (by rfl), rqAt_eq hr]
  omega
theorem mQ_re {w : World} {R m k : Nat} {s : List UInt8} (h : Re w R s m k) (hk : k ≠ 0) (n : Nat) : mQ n R w = 0 := by
  obtain ⟨p, _, hr⟩ := h
  unfold mQ
  rw [hr.cells.2.2.2]
  simp only
  rw [if_neg (by omega)]
theorem name_grown {w wx : World} {R : Option Nat} (h : Hid (w.grownBy wx R)) : ∃ W, W = wx := ⟨wx, rfl⟩
def resS (l : List UInt8) : Option (List UInt8 × List UInt8) := if preX [34] l then strW [] (l.drop 1) else none
/-- What str does. -/
def StrP (l s : List UInt8) (R m : Nat) (w : World) (x : Ending) (w' : World) : Prop :=
  (∀ t r, resS l = some (t, r) → x = .returned (.string (asS t)) ∧ Rl w' R s r m ∧ t.length ≤ 4000000) ∧ (resS l = none → x = .returned (.string ⟨#[]⟩) ∧ Re w' R s m 5) ∧ w.grownBy w' (some R)
theorem StrP.no {l s : List UInt8} {R m : Nat} {w w' : World} (h : resS l = none) (hr : Re w' R s m 5) (hg : w.grownBy w' (some R)) : StrP l s R m w (.returned (.string ⟨#[]⟩)) w' := ⟨fun n r h2 => (by rw [h] at h2; cases h2), fun _ => ⟨rfl, hr⟩, hg⟩
theorem StrP.yes {l s t r : List UInt8} {R m : Nat} {w w' : World} (h : resS l = some (t, r)) (ht : t.length ≤ 4000000) (hr : Rl w' R s r m) (hg : w.grownBy w' (some R)) : StrP l s R m w (.returned (.string (asS t))) w' := ⟨fun a b h2 => (by rw [h] at h2; injection h2 with h2; injection h2 with h3 h4; subst h3 h4; exact ⟨rfl, hr, ht⟩), fun h2 => (by rw [h] at h2; cases h2), hg⟩
theorem encL_le4 (v : Nat) : (encL v).length ≤ 4 := (encL_len v).2
theorem Rl.to {w w' : World} {R m g : Nat} {s l : List UInt8} (h : Rl w R s l m) (hg : w.grownBy w' (some g)) (hne : R ≠ g) : Rl w' R s l m := by
  obtain ⟨p, h1, h2, h3⟩ := h
  exact ⟨p, h1, h2, to_row hg h3 hne⟩
theorem Re.to {w w' : World} {R m g k : Nat} {s : List UInt8} (h : Re w R s m k) (hg : w.grownBy w' (some g)) (hne : R ≠ g) : Re w' R s m k := by
  obtain ⟨p, h2, h3⟩ := h
  exact ⟨p, h2, to_row hg h3 hne⟩
theorem Own.to {w w' : World} {b g n cap R : Nat} {o : List UInt8} (h : Own w b g n cap o) (hg : w.grownBy w' (some R)) (hR : R < b) : Own w' b g n cap o := h.other hg (by have := h.ge; omega)
set_option maxHeartbeats 16000000 in
set_option maxRecDepth 100000 in
theorem strQ (l s : List UInt8) (R m : Nat) (hs : s.length ≤ 1000000) (w : World) (h : Rl w R s l m) : Calls Tryz.prog 70 #[.pointer (some ⟨R, 0, none⟩)] w fun x w' => StrP l s R m w x w' := by
  have hll := h.len
  have hRl := h.lt
  have HP := hid (h.past 34 hs)
  have HW5 : Hid (∀ l W, Rl W R s l m → Calls Tryz.prog 42 #[.pointer (some ⟨R, 0, none⟩), .int .i64 5] W fun x w' => x = .returned (.tuple #[]) ∧ Re w' R s m 5 ∧ W.grownBy w' (some R)) := fun l W hW => hW.wrong 5
  have HE := hid (fun l W (hW : Rl W R s l m) => escapeQ l s R m hs W hW)
  have HPQ : Hid (∀ l W, Rl W R s l m → Calls Tryz.prog 96 #[.pointer (some ⟨R, 0, none⟩), .int .u8 34] W fun x w' => x = .returned (.bool (preX [34] l)) ∧ Rl w' R s (passJ [34] l) m ∧ W.grownBy w' (some R)) := fun l W hW => hW.past 34 hs
  have HPB : Hid (∀ l W, Rl W R s l m → Calls Tryz.prog 96 #[.pointer (some ⟨R, 0, none⟩), .int .u8 92] W fun x w' => x = .returned (.bool (preX [92] l)) ∧ Rl w' R s (passJ [92] l) m ∧ W.grownBy w' (some R)) := fun l W hW => hW.past 92 hs
  obtain ⟨RES, hRES⟩ : ∃ RES, resS l = RES := ⟨_, rfl⟩
  have HRES := hid hRES
  have HST : Hid ((preX [34] l = true ∧ passJ [34] l = l.drop 1 ∧ RES = strW [] (l.drop 1)) ∨ (preX [34] l = false ∧ RES = none)) := by
    cases hp : preX [34] l with
    | true => exact .inl ⟨rfl, passJ_yes hp, by rw [← hRES]; unfold resS; rw [hp]; rfl⟩
    | false => exact .inr ⟨rfl, by rw [← hRES]; unfold resS; rw [hp]; rfl⟩
  clear h hRES
  go_enter Tryz.func70, Tryz.ntmps70
  go_wp2_with fail
  refine HP.out.mono ?_
  rintro e W1 ⟨rfl, hr, hg⟩
  have HG1 := hid hg
  have HR1 := hid hr
  clear hr hg HP
  go_upto_if 6 with (fail)
  go_cut [] (fun wx => Hid (w.grownBy wx (some R)) ∧ ((∃ lx, Hid (lx.length ≤ l.length ∧ RES = strW [] lx) ∧ Hid (Rl wx R s lx m)) ∨ (Hid (RES = none) ∧ Hid (Re wx R s m 5))))
  case first =>
    clear HE HPQ HPB HRES
    rcases HST.out with ⟨h1, h2, h3⟩ | ⟨h1, h2⟩
    · have HX : Hid ((l.drop 1).length ≤ l.length ∧ RES = strW [] (l.drop 1)) := ⟨by rw [List.length_drop]; omega, h3⟩
      rw [h2] at HR1
      rw [h1]
      clear h1 h2 h3 HST
      go_wp2_with fail
      go_meet
      case rel => exact ⟨HG1, .inl ⟨_, HX, HR1⟩⟩
    · have HX := hid h2
      have HW1 := hid (HW5.out _ _ HR1.out)
      rw [h1]
      clear h1 h2 HST HW5 HR1
      go_wp2_with fail
      refine HW1.out.mono ?_
      rintro e W2 ⟨rfl, hr, hg⟩
      have HR2 := hid hr
      have HG2 := hid (HG1.out.trans hg)
      clear hr hg
      go_wp2_with fail
      go_meet
      case rel => exact ⟨HG2, .inr ⟨HX, HR2⟩⟩
  case rest =>
    clear HR1 HG1 HST
    obtain ⟨HGa, HIa⟩ := hcut
    obtain ⟨wa, hwa⟩ := name_grown HGa
    subst hwa
    have hsz := HGa.out.size
    have HAL := hid ((Below.refl wa.heap.size wa).alloc (Nat.le_refl _) (.cells #[] 5))
    have HOWN := hid (Own.zero wa wa.heap.size (Nat.le_refl _))
    have HGB := hid (HGa.out.trans (to_below (R := R) HAL.out))
    have HIB : Hid ((∃ lx, Hid (lx.length ≤ l.length ∧ RES = strW [] lx) ∧ Hid (Rl (wa.alloc (.cells #[] 5)) R s lx m)) ∨ (Hid (RES = none) ∧ Hid (Re (wa.alloc (.cells #[] 5)) R s m 5))) := by
      rcases HIa with ⟨lx, h1, h2⟩ | ⟨h1, h2⟩
      · exact .inl ⟨lx, h1, h2.out.below HAL.out⟩
      · exact .inr ⟨h1, h2.out.below HAL.out⟩
    clear HGa HIa HAL
    obtain ⟨B, hB⟩ : ∃ B, B = wa.heap.size := ⟨_, rfl⟩
    have hRB : R < B := by omega
    have hwB : w.heap.size ≤ B := by omega
    go_wp2_with fail
    rw [← hB] at HOWN ⊢
    have hBs : B ≤ (wa.alloc (.cells #[] 5)).heap.size := by rw [hB]; simp
    obtain ⟨wz, hwz⟩ : ∃ wz, wa.alloc (.cells #[] 5) = wz := ⟨_, rfl⟩
    rw [hwz] at HOWN HGB HIB hBs ⊢
    clear hwz hB hsz
    go_loopw [3] (fun ov wr => ∃ (g n cap : Nat) (o : List UInt8), ov = .slice (some ⟨g, 0, none⟩) n cap ∧ n ≤ 4000000 ∧ Hid (B ≤ wr.heap.size) ∧ Hid (Own wr B g n cap o) ∧ Hid (w.grownBy wr (some R)) ∧ ((∃ lx, Hid (n + 4 * lx.length ≤ 4000000 ∧ RES = strW o lx) ∧ Hid (Rl wr R s lx m)) ∨ (Hid (RES = none) ∧ Hid (Re wr R s m 5)))) (fun ov wr => mQ s.length R wr)
    case atStart =>
      refine ⟨B, 0, 0, [], rfl, by omega, hBs, HOWN, HGB, ?_⟩
      rcases HIB.out with ⟨lx, h1, h2⟩ | ⟨h1, h2⟩
      · exact .inl ⟨lx, ⟨by have := h1.out.1; omega, h1.out.2⟩, h2⟩
      · exact .inr ⟨h1, h2⟩
    case round =>
      clear HOWN HGB HIB hBs
      obtain ⟨g, n, cap, o, rfl, hn, HBS, HO, HG, ⟨lx, HX, HRx⟩ | ⟨HX, HRx⟩⟩ := hrel
      · have HM1 := hid (mQ_rl HRx.out)
        have hrow := HRx.out.row5.1
        obtain ⟨d0, d1, _, d3⟩ := hrow.cells
        have hxl := HRx.out.len
        have z1 := asS_size s
        cases lx with
        | nil =>
          have HNO : Hid (resS l = none) := HRES.out.trans (by rw [HX.out.2]; exact strW_nil o)
          rw [List.length_nil, Nat.sub_zero] at d1
          have hge : decide ((s.length : Int) ≤ (s.length : Int)) = true := decide_eq_true (Int.le_refl _)
          generalize asS s = S at d0 z1
          clear hrow HX HM1
          go_wp2_with fail
          go_quiet (fail)
          go_wp2_with fail
          refine (HW5.out [] _ (HRx.out.below (below_drewN _ _ _))).mono ?_
          rintro e W2 ⟨rfl, hr, hg⟩
          have HR2 := hid hr
          have HG2 := hid (HG.out.trans ((to_below (R := R) (below_drewN _ _ _)).trans hg))
          clear hr hg
          go_wp2_with fail
          go_ret
          exact StrP.no HNO.out HR2.out HG2.out
        | cons c r =>
          have hstp := strW_cons o c r
          have HN := hid (fun W (hW : Rl W R s (c :: r) m) => hW.now)
          have hhd : (c :: r).headD 0 = c := rfl
          rw [hhd] at HN
          have hp1 : s.length - (c :: r).length < s.length := by rw [List.length_cons] at hxl ⊢; omega
          have hge : ¬ (s.length : Int) ≤ ((s.length - (c :: r).length : Nat) : Int) := by omega
          have hge' : decide ((s.length : Int) ≤ ((s.length - (c :: r).length : Nat) : Int)) = false := decide_eq_false hge
          have HNEXT := hid (fun w' h2 => HRx.out.next (w' := w') h2)
          have hpb : s.length - (c :: r).length ≤ 1000000 := by omega
          have HROW := hid hrow
          generalize hpp : s.length - (c :: r).length = p at d1 hge hge' hp1 HNEXT HROW hpb
          have HXL := hid hxl
          have hl4 : n + 4 * r.length + 4 ≤ 4000000 := by have := HX.out.1; rw [List.length_cons] at this; omega
          clear hrow hpp hhd hxl
          obtain ⟨S, hS⟩ : ∃ S, asS s = S := ⟨_, rfl⟩
          have HSS := hid hS
          rw [hS] at d0 z1
          clear hS
          have HND := hid (fun W (hW : Rl W R s (c :: r) m) => hW.nowD)
          rw [show (c :: r).headD 0 = c from rfl] at HND
          by_cases h32 : c.toNat < 32
          · have k32 : (c.toNat : Int) < 32 := by omega
            have hnn : strW o (c :: r) = none := by
              rw [hstp, if_neg (fun e => by rw [e] at h32; revert h32; decide), if_neg (fun e => by rw [e] at h32; revert h32; decide), if_pos h32]
            have HNO : Hid (resS l = none) := HRES.out.trans (by rw [HX.out.2]; exact hnn)
            clear hstp hnn HX HN HNEXT HM1
            go_wp2_with fail
            go_quiet ((go_at_call 68; exact Calls.quiet_of (HND.out _ (HRx.out.below (below_drewN _ _ _)))))
            go_wp2_with fail
            refine (HW5.out _ _ (HRx.out.below (below_drewN _ _ _))).mono ?_
            rintro e W2 ⟨rfl, hr, hg⟩
            have HR2 := hid hr
            have HG2 := hid (HG.out.trans ((to_below (R := R) (below_drewN _ _ _)).trans hg))
            clear hr hg
            go_wp2_with fail
            go_ret
            exact StrP.no HNO.out HR2.out HG2.out
          · have k32 : ¬ (c.toNat : Int) < 32 := by omega
            have HP1 := hid (HPQ.out (c :: r))
            go_wp2_with fail
            go_quiet ((go_at_call 68; exact Calls.quiet_of (HND.out _ (HRx.out.below (below_drewN _ _ _)))))
            go_wp2_with fail
            by_cases h34 : c = 34
            · have hpre : preX [34] (c :: r) = true := by rw [h34]; rfl
              have hY : strW o (c :: r) = some (o, r) := by rw [hstp, if_pos h34]
              have HY : Hid (resS l = some (o, r)) := HRES.out.trans (by rw [HX.out.2]; exact hY)
              rw [hpre, passJ_yes hpre] at HP1
              clear hstp hY HX HN HNEXT h34 hpre HM1 h32 k32
              refine (HP1.out _ (HRx.out.below (below_drewN _ _ _))).mono ?_
              rintro e W2 ⟨rfl, hr, hg⟩
              have HR2 : Hid (Rl W2 R s r m) := hr
              have HO2 := hid ((HO.out.to (R := R) (to_below (below_drewN _ _ _)) hRB).to hg hRB)
              have HG2 := hid (HG.out.trans ((to_below (R := R) (below_drewN _ _ _)).trans hg))
              have hst := str_row (c := cap) HO2.out.bytes HO2.out.len
              have HL := hid HO2.out.len
              clear hr hg HP1
              go_wp2_with fail
              go_ret
              exact StrP.yes HY.out (by rw [HL.out]; exact hn) HR2.out HG2.out
            · have hpre : preX [34] (c :: r) = false := by
                show ((34 == c) && true) = false
                rw [Bool.and_true, beq_eq_false_iff_ne]
                exact fun e => h34 e.symm
              rw [if_neg h34] at hstp
              rw [hpre, passJ_no hpre] at HP1
              clear hpre
              refine (HP1.out _ (HRx.out.below (below_drewN _ _ _))).mono ?_
              rintro e W2 ⟨rfl, hr, hg⟩
              have HR2 := hid hr
              have HO2 := hid ((HO.out.to (R := R) (to_below (below_drewN _ _ _)) hRB).to hg hRB)
              have HG2 := hid (HG.out.trans ((to_below (R := R) (below_drewN _ _ _)).trans hg))
              have HBS2 : Hid (B ≤ W2.heap.size) := Nat.le_trans HBS.out (show wr.heap.size ≤ W2.heap.size from hg.size)
              have HP2 := hid (HPB.out _ W2 hr)
              clear hr hg HP1 HO HG HBS HRx
              go_wp2_with fail
              by_cases h92 : c = 92
              · have hpre : preX [92] (c :: r) = true := by rw [h92]; rfl
                rw [if_pos h92] at hstp
                rw [hpre, passJ_yes hpre] at HP2
                clear hpre h32 k32
                refine HP2.out.mono ?_
                rintro e W3 ⟨rfl, hr, hg⟩
                have HO3 := hid (HO2.out.to hg hRB)
                have HG3 := hid (HG2.out.trans hg)
                have HBS3 : Hid (B ≤ W3.heap.size) := Nat.le_trans HBS2.out hg.size
                have HE3 := hid (HE.out r W3 hr)
                clear hr hg HP2 HO2 HG2 HBS2 HR2
                cases he : escJ r with
                | none =>
                  rw [he] at hstp
                  have HNO : Hid (RES = none) := HX.out.2.trans hstp
                  have HC3 : Hid (Calls Tryz.prog 97 #[.pointer (some ⟨R, 0, none⟩)] W3 fun x w' => x = .returned (.string ⟨#[]⟩) ∧ Re w' R s m 5 ∧ W3.grownBy w' (some R)) := HE3.out.mono fun x w' hh => ⟨(hh.2.1 he).1, (hh.2.1 he).2, hh.2.2⟩
                  clear hstp HX HE3 he h92 h34 HN HNEXT
                  go_wp2_with fail
                  refine HC3.out.mono ?_
                  rintro e W4 ⟨rfl, hr, hg⟩
                  have HR4 := hid hr
                  have HO4 := hid (HO3.out.to hg hRB)
                  have HG4 := hid (HG3.out.trans hg)
                  have HBS4 : Hid (B ≤ W4.heap.size) := Nat.le_trans HBS3.out hg.size
                  have HSR : Hid (Src Tryz.prog 1 9 (.string ⟨#[]⟩) 0 (bvs []) W4) := src_strQ [] W4
                  clear hr hg HC3 HO3 HG3 HBS3
                  go_wp2_with (first
                    | (refine wpList_own rfl _ _ 9 rfl B g n cap 0 o [] _ rfl rfl HO4.out HSR.out (by omega) HBS4.out ?_)
                    | fail)
                  intro g1 cap1 W5 hown1 hg1 hor1
                  have HR5 := hid (HR4.out.to hg1 (by have := HO4.out.ge; omega))
                  have HO5 := hid hown1
                  have HG5 := hid (grow_own HG4.out hg1 (fun q e => by injection e with e; have := HO4.out.ge; omega))
                  have HBS5 : Hid (B ≤ W5.heap.size) := Nat.le_trans HBS4.out hg1.size
                  clear hown1 hg1 hor1
                  go_wp2_with fail
                  go_roundw
                  case rel => exact ⟨g1, n, cap1, o, by simp, hn, HBS5, by simpa using HO5, HG5, .inr ⟨HNO, HR5⟩⟩
                  case measure => rw [mQ_re HR5.out (by decide), HM1.out]; omega
                | some q =>
                  obtain ⟨v, r3⟩ := q
                  rw [he] at hstp
                  have hlr := esc_len he
                  have hl5 := encL_le4 v
                  have HX3 : Hid (RES = strW (o ++ encL v) r3) := HX.out.2.trans hstp
                  have HC3 : Hid (Calls Tryz.prog 97 #[.pointer (some ⟨R, 0, none⟩)] W3 fun x w' => x = .returned (.string (asS (encL v))) ∧ Rl w' R s r3 m ∧ W3.grownBy w' (some R)) := HE3.out.mono fun x w' hh => ⟨(hh.1 v r3 he).1, (hh.1 v r3 he).2, hh.2.2⟩
                  have HSR0 := hid (fun W => src_strQ (encL v) W)
                  generalize encL v = EV at hl5 HX3 HC3 HSR0
                  generalize asS EV = SV at HC3 HSR0
                  clear hstp HX HE3 he h92 h34 HN HNEXT
                  go_wp2_with fail
                  refine HC3.out.mono ?_
                  rintro e W4 ⟨rfl, hr, hg⟩
                  have HR4 := hid hr
                  have HO4 := hid (HO3.out.to hg hRB)
                  have HG4 := hid (HG3.out.trans hg)
                  have HBS4 : Hid (B ≤ W4.heap.size) := Nat.le_trans HBS3.out hg.size
                  have HSR := hid (HSR0.out W4)
                  clear hr hg HC3 HO3 HG3 HBS3 HSR0
                  go_wp2_with (first
                    | (refine wpList_own rfl _ _ 9 rfl B g n cap EV.length o EV _ rfl rfl HO4.out HSR.out (by omega) HBS4.out ?_)
                    | fail)
                  intro g1 cap1 W5 hown1 hg1 hor1
                  have HR5 := hid (HR4.out.to hg1 (by have := HO4.out.ge; omega))
                  have HO5 := hid hown1
                  have HG5 := hid (grow_own HG4.out hg1 (fun q e => by injection e with e; have := HO4.out.ge; omega))
                  have HBS5 : Hid (B ≤ W5.heap.size) := Nat.le_trans HBS4.out hg1.size
                  clear hown1 hg1 hor1
                  go_wp2_with fail
                  go_roundw
                  case rel => exact ⟨g1, n + EV.length, cap1, o ++ EV, rfl, by omega, HBS5, HO5, HG5, .inl ⟨r3, ⟨by omega, HX3.out⟩, HR5⟩⟩
                  case measure => rw [mQ_rl HR5.out, HM1.out, List.length_cons]; omega
              · have hpre : preX [92] (c :: r) = false := by
                  show ((92 == c) && true) = false
                  rw [Bool.and_true, beq_eq_false_iff_ne]
                  exact fun e => h92 e.symm
                rw [if_neg h92, if_neg h32] at hstp
                have HX3 : Hid (RES = strW (o ++ [c]) r) := HX.out.2.trans hstp
                rw [hpre, passJ_no hpre] at HP2
                clear hpre hstp HX
                refine HP2.out.mono ?_
                rintro e W3 ⟨rfl, hr, hg⟩
                have HR3 := hid hr
                have HO3 := hid (HO2.out.to hg hRB)
                have HG3 := hid (HG2.out.trans hg)
                have HBS3 : Hid (B ≤ W3.heap.size) := Nat.le_trans HBS2.out hg.size
                have HN3 := hid (HN.out W3 hr)
                clear hr hg HP2 HO2 HG2 HBS2 HR2
                go_wp2_with fail
                refine HN3.out.mono ?_
                rintro e W4 ⟨rfl, hb⟩
                have HR4 := hid (HR3.out.below hb)
                have HO4 := hid (HO3.out.to (R := R) (to_below hb) hRB)
                have HG4 := hid (HG3.out.trans (to_below (R := R) hb))
                have HBS4 : Hid (B ≤ W4.heap.size) := Nat.le_trans HBS3.out hb.size
                have HOA := hid (HO4.out.alloc (.cells #[.int .u8 (c.toNat : Int)] 5))
                have HAL := hid ((Below.refl W4.heap.size W4).alloc (Nat.le_refl _) (.cells #[.int .u8 (c.toNat : Int)] 5))
                have HBA : Hid (B ≤ (W4.alloc (.cells #[.int .u8 (c.toNat : Int)] 5)).heap.size) := Nat.le_trans HBS4.out HAL.out.size
                have HSR := hid (src_oneQ W4 c (c.toNat : Int) rfl)
                clear hb HN3 HN HR3 HO3 HG3 HBS3
                go_wp2_with (first
                  | (refine wpList_own rfl _ _ 47 rfl B g n cap 1 o [c] _ rfl rfl HOA.out HSR.out (by omega) HBA.out ?_)
                  | fail)
                intro g1 cap1 W5 hown1 hg1 hor1
                have hge1 := HO4.out.ge
                have HR5 := hid ((HR4.out.below HAL.out).to hg1 (by omega))
                have HO5 := hid hown1
                have HG5 := hid (grow_own (HG4.out.trans (to_below (R := R) HAL.out)) hg1 (fun q e => by injection e with e; omega))
                have HBS5 : Hid (B ≤ W5.heap.size) := Nat.le_trans HBA.out hg1.size
                clear hown1 hg1 hor1 HOA HAL HBA HSR HR4 HO4 HG4 HBS4
                have hrow5 := HR5.out.row5.1
                have hpq : s.length - (c :: r).length ≤ 1000000 := by have := HXL.out; omega
                have HNX := hid (fun w' h2 => HR5.out.next (w' := w') h2)
                generalize s.length - (c :: r).length = p5 at hrow5 hpq HNX
                obtain ⟨_, f1, _, _⟩ := hrow5.cells
                unfold Rq at hrow5
                have HRW5 := hid hrow5
                clear hrow5
                go_wp2_with (first
                  | (refine store_part rfl 3 _ _ rfl R 1 (.int .i64 ((p5 : Int) + 1)) _ _ #[.string (asS s), .int .i64 ((p5 : Int) + 1), .int .i64 m, .int .i64 ((0 : Nat) : Int)] rfl rfl info3q (by simp) rfl rfl HRW5.out rfl ?_)
                  | fail)
                intro W6 ho hr
                have HR6 : Hid (Rl W6 R s r m) := HNX.out W6 (by unfold Rq; rw [show ((p5 + 1 : Nat) : Int) = (p5 : Int) + 1 from by omega]; exact hr)
                have HO6 := hid (HO5.out.to (to_only ho) hRB)
                have HG6 := hid (HG5.out.trans (to_only ho))
                have HBS6 : Hid (B ≤ W6.heap.size) := Nat.le_trans HBS5.out (Nat.le_of_eq ho.size.symm)
                clear ho hr HNX
                go_wp2_with fail
                go_roundw
                case rel => exact ⟨g1, n + 1, cap1, o ++ [c], rfl, by omega, HBS6, HO6, HG6, .inl ⟨r, ⟨by omega, HX3.out⟩, HR6⟩⟩
                case measure => rw [mQ_rl HR6.out, HM1.out, List.length_cons]; omega
      · have hrr := HRx.out
        obtain ⟨px, hpx, hrx⟩ := hrr
        obtain ⟨_, _, _, b3⟩ := hrx.cells
        have HNO := hid (HRES.out.trans HX.out)
        clear hrx hpx
        go_wp2_with fail
        go_ret
        exact StrP.no HNO.out HRx.out HG.out
end Go.Proofs.YtlgkbdebpnbndaaGreatDoor
