
/- Line ends looked for in a text of any bytes: what strings.ContainsAny does at carriage return and line feed. -/
import Derived.Test.YtclonnpglikddaaGreatDoorTxBase
import Derived.Test.YtclonnpglikddaaGreatDoorHtPlain
import Derived.Laws.RangeAny
import Derived.Laws.Runes
import Derived.WalkMore
import Derived.Lib.OthersKept
import Derived.Lib.DecodeN
namespace Go.Proofs.YtclonnpglikddaaGreatDoor
set_option linter.unusedVariables false
set_option linter.unusedSimpArgs false
open Go.RowKit Go.BigFrame

theorem get_eq (s : ByteArray) (i : Nat) : s.get! i = s.data.toList.getD i 0 := by
  obtain ⟨⟨l⟩⟩ := s
  show (l.toArray)[i]! = _
  rw [List.getElem!_toArray, List.getD_eq_getElem?_getD, List.getElem!_eq_getElem?_getD]
  rfl
theorem dN_ascii (n b0 b1 b2 b3 : Nat) (h : b0 < 128) : Lib.decodeN n b0 b1 b2 b3 = (b0, 1) := by simp [Lib.decodeN, h]
theorem dN_conts (n b0 b1 b2 b3 : Nat) : (1 < (Lib.decodeN n b0 b1 b2 b3).2 → 128 ≤ b1) ∧ (2 < (Lib.decodeN n b0 b1 b2 b3).2 → 128 ≤ b2) ∧ (3 < (Lib.decodeN n b0 b1 b2 b3).2 → 128 ≤ b3) ∧ (Lib.decodeN n b0 b1 b2 b3).2 ≤ 4 := by
  unfold Lib.decodeN
  repeat' split
  all_goals (simp only; refine ⟨fun _ => ?_, fun _ => ?_, fun _ => ?_, ?_⟩ <;> omega)
/-- Behind a byte above ASCII the rune's other bytes are above it, too. -/
theorem conts_at (s : ByteArray) (p j : Nat) (h0 : 128 ≤ (s.data.toList.getD p 0).toNat) (hj : j < (Utf8.decode s p).2) : 128 ≤ (s.data.toList.getD (p + j) 0).toNat := by
  rw [Lib.decode_at, get_eq, get_eq, get_eq, get_eq] at hj
  obtain ⟨c1, c2, c3, c4⟩ := dN_conts (s.size - p) (s.data.toList.getD p 0).toNat (s.data.toList.getD (p + 1) 0).toNat (s.data.toList.getD (p + 2) 0).toNat (s.data.toList.getD (p + 3) 0).toNat
  match j, hj with
  | 0, _ => exact h0
  | 1, hj => exact c1 hj
  | 2, hj => exact c2 hj
  | 3, hj => exact c3 hj
  | j + 4, hj => omega
/-- No line's end among the first k bytes. -/
def NoEnd (l : List UInt8) (k : Nat) : Prop := ∀ j, j < k → j < l.length → l.getD j 0 ≠ 13 ∧ l.getD j 0 ≠ 10
def endsIn (l : List UInt8) : Bool := decide ((13 : UInt8) ∈ l ∨ (10 : UInt8) ∈ l)
theorem NoEnd.none {l : List UInt8} {k : Nat} (h : NoEnd l k) (hk : l.length ≤ k) : endsIn l = false := by
  refine decide_eq_false ?_
  rintro (h1 | h1)
  all_goals
    obtain ⟨j, hj, e⟩ := List.getElem_of_mem h1
    have := h j (by omega) hj
    rw [List.getD_eq_getElem?_getD, List.getElem?_eq_getElem hj, e] at this
    first | exact this.1 rfl | exact this.2 rfl
theorem ends_at {l : List UInt8} {j : Nat} (hj : j < l.length) (h : l.getD j 0 = 13 ∨ l.getD j 0 = 10) : endsIn l = true := by
  refine decide_eq_true ?_
  have hm : l.getD j 0 ∈ l := by rw [List.getD_eq_getElem?_getD, List.getElem?_eq_getElem hj]; exact List.getElem_mem hj
  rcases h with h | h
  · exact .inl (h ▸ hm)
  · exact .inr (h ▸ hm)
theorem NoEnd.more {l : List UInt8} {k m : Nat} (h : NoEnd l k) (hm : ∀ j, j < m → l.getD (k + j) 0 ≠ 13 ∧ l.getD (k + j) 0 ≠ 10) : NoEnd l (k + m) := fun j hj hl => by
  rcases Nat.lt_or_ge j k with h1 | h1
  · exact h j h1 hl
  · have := hm (j - k) (by omega)
    rwa [show k + (j - k) = j from by omega] at this
/-- Rune by rune: k bytes behind, the next rune r of m bytes. -/
theorem rune_step (s : ByteArray) (k : Nat) (hk : k < s.size) : (∃ c : UInt8, (Utf8.decode s k).1 = c.toNat ∧ c.toNat < 128 ∧ s.data.toList.getD k 0 = c ∧ (Utf8.decode s k).2 = 1) ∨ (128 ≤ (Utf8.decode s k).1 ∧ (Utf8.decode s k).1 ≤ 2147483647 ∧ 1 ≤ (Utf8.decode s k).2 ∧ ∀ j, j < (Utf8.decode s k).2 → s.data.toList.getD (k + j) 0 ≠ 13 ∧ s.data.toList.getD (k + j) 0 ≠ 10) := by
  have hg : s[k] = s.data.toList.getD k 0 := ba_at s k hk
  by_cases h : (s.data.toList.getD k 0).toNat < 128
  · refine .inl ⟨s.data.toList.getD k 0, ?_, h, rfl, ?_⟩
    · rw [Lib.decode_at, get_eq, dN_ascii _ _ _ _ _ h]
    · rw [Lib.decode_at, get_eq, dN_ascii _ _ _ _ _ h]
  · have hh := decode_high s k hk (by rw [hg]; omega)
    refine .inr ⟨hh.1, decode_le s k, hh.2, fun j hj => ?_⟩
    have := conts_at s k j (by omega) hj
    constructor
    · intro e; rw [e] at this; revert this; decide
    · intro e; rw [e] at this; revert this; decide
/-- A rune above ASCII as a text: at least two bytes, none below 128. -/
theorem enc_high (r : Int) (h : 128 ≤ r) : ∃ a b c, Utf8.encode r = asS (a :: b :: c) ∧ (∀ x ∈ a :: b :: c, 128 ≤ x.toNat) ∧ (a :: b :: c).length ≤ 4 := by
  have hb : ∀ n : Nat, 128 ≤ n → n < 256 → 128 ≤ (UInt8.ofNat n).toNat := fun n h1 h2 => by rw [UInt8.toNat_ofNat']; omega
  unfold Utf8.encode
  simp only
  have key : ∀ c : Nat, 128 ≤ c → c ≤ 1114111 → ∃ a b d, (if c < 0x80 then (⟨#[UInt8.ofNat c]⟩ : ByteArray) else if c < 0x800 then ⟨#[UInt8.ofNat (0xC0 + c / 64), UInt8.ofNat (0x80 + c % 64)]⟩ else if c < 0x10000 then ⟨#[UInt8.ofNat (0xE0 + c / 4096), UInt8.ofNat (0x80 + c / 64 % 64), UInt8.ofNat (0x80 + c % 64)]⟩ else ⟨#[UInt8.ofNat (0xF0 + c / 262144), UInt8.ofNat (0x80 + c / 4096 % 64), UInt8.ofNat (0x80 + c / 64 % 64), UInt8.ofNat (0x80 + c % 64)]⟩) = asS (a :: b :: d) ∧ (∀ x ∈ a :: b :: d, 128 ≤ x.toNat) ∧ (a :: b :: d).length ≤ 4 := fun c h1 h2 => by
    rw [if_neg (by omega)]
    by_cases h3 : c < 0x800
    · rw [if_pos h3]
      refine ⟨_, _, _, rfl, fun x hx => ?_, by simp⟩
      simp only [List.mem_cons, List.not_mem_nil, or_false] at hx
      rcases hx with rfl | rfl <;> exact hb _ (by omega) (by omega)
    · rw [if_neg h3]
      by_cases h4 : c < 0x10000
      · rw [if_pos h4]
        refine ⟨_, _, _, rfl, fun x hx => ?_, by simp⟩
        simp only [List.mem_cons, List.not_mem_nil, or_false] at hx
        rcases hx with rfl | rfl | rfl <;> exact hb _ (by omega) (by omega)
      · rw [if_neg h4]
        refine ⟨_, _, _, rfl, fun x hx => ?_, by simp⟩
        simp only [List.mem_cons, List.not_mem_nil, or_false] at hx
        rcases hx with rfl | rfl | rfl | rfl <;> exact hb _ (by omega) (by omega)
  by_cases hv : Utf8.valid r = true
  · rw [if_pos hv]
    refine key r.toNat (by omega) ?_
    unfold Utf8.valid at hv
    simp only [Bool.or_eq_true, Bool.and_eq_true, decide_eq_true_eq] at hv
    omega
  · rw [if_neg hv]
    exact key 65533 (by decide) (by decide)
theorem enc_ix (E : ByteArray) (x : UInt8) (k : Nat) (hk : k < E.size) (hx : E.data.toList.getD k 0 = x) (W : World) : (Instr.index 9 (.string E) (.int .i64 (k : Int))).run Tryz.prog W = .ok (.int .u8 x.toNat) W := by
  rw [str_ix E k hk W, hx]
theorem ib_nil (x : Nat) (w : World) : Calls Tryz.prog 58 #[.string ⟨#[]⟩, .int .u8 x] w fun e w' => e = .returned (.int .i64 (-1)) ∧ w' = w := by
  have := Tryz.strings_IndexByte ⟨#[]⟩ (x : Int) w
  rw [show Lib.indexByte (⟨#[]⟩ : ByteArray).data.toList (x : Int).toNat.toUInt8 = -1 from by simp [Lib.indexByte]] at this
  exact this
set_option maxHeartbeats 2000000 in
set_option maxRecDepth 100000 in
theorem ixRune_err (w : World) : Calls Tryz.prog 161 #[.string ⟨#[13, 10]⟩, .int .i32 65533] w fun e w' => e = .returned (.int .i64 (-1)) ∧ Below w.heap.size w w' := by
  go_enter Tryz.func161, Tryz.ntmps161
  go_wp2_with fail
  go_loopg [5, 6] 2 (fun g _ _ wx => ∃ i : Nat, i + g = 2 ∧ wx = w.iter ⟨#[13, 10]⟩ i)
  case atStart => exact ⟨0, by omega, rfl⟩
  case round =>
    obtain ⟨i, hig, rfl⟩ := hrel
    rcases (show i = 0 ∧ gk = 2 ∨ i = 1 ∧ gk = 1 ∨ i = 2 ∧ gk = 0 by omega) with ⟨rfl, rfl⟩ | ⟨rfl, rfl⟩ | ⟨rfl, rfl⟩
    · have hnx := fun ty => run_next_ascii (P := Tryz.prog) w ⟨#[13, 10]⟩ 0 ty (by decide) (by decide)
      have e1 : ((⟨#[13, 10]⟩ : ByteArray)[0]'(by decide)).toNat = 13 := rfl
      rw [e1] at hnx
      go_wp2_with fail
      go_roundg 1
      case measure => omega
      case rel => exact ⟨1, by omega, rfl⟩
    · have hnx := fun ty => run_next_ascii (P := Tryz.prog) w ⟨#[13, 10]⟩ 1 ty (by decide) (by decide)
      have e1 : ((⟨#[13, 10]⟩ : ByteArray)[1]'(by decide)).toNat = 10 := rfl
      rw [e1] at hnx
      go_wp2_with fail
      go_roundg 0
      case measure => omega
      case rel => exact ⟨2, by omega, rfl⟩
    · have hnx := run_next_end (P := Tryz.prog) w ⟨#[13, 10]⟩ 2
      go_wp2_with fail
      go_ret
      exact ⟨rfl, (Below.refl _ _).alloc (Nat.le_refl _) _⟩
set_option maxHeartbeats 2000000 in
set_option maxRecDepth 100000 in
theorem ixRune_hi (r : Int) (h0 : 128 ≤ r) (h1 : r ≤ 2147483647) (w : World) : Calls Tryz.prog 161 #[.string ⟨#[13, 10]⟩, .int .i32 r] w fun e w' => e = .returned (.int .i64 (-1)) ∧ Below w.heap.size w w' := by
  by_cases hr : r = 65533
  · subst hr
    exact ixRune_err w
  · have hb : (r == 65533) = false := beq_eq_false_iff_ne.2 hr
    have HV := hid (fun W => Tryz.utf8_ValidRune r W)
    clear hr
    generalize Lib.validRune r = v at HV
    have hlt : ¬ r < 128 := by omega
    cases v
    · go_enter Tryz.func161, Tryz.ntmps161
      go_wp2_with fail
      refine (HV.out _).mono ?_
      rintro e W1 ⟨rfl, rfl⟩
      go_wp2_with fail
      go_ret
      exact ⟨rfl, Below.refl _ _⟩
    · obtain ⟨x, y, z, hE, hall, hlen⟩ := enc_high r h0
      have hcv : ∀ W, (convert 21 9 (.int .i32 r)).run Tryz.prog W = .ok (.string (Utf8.encode r)) W := fun W => run_convert_int_string W 21 9 .i32 r (by rw [Tryz.underlying21]; rfl) Tryz.underlying9
      rw [hE] at hcv
      have hsz : (asS (x :: y :: z)).size = z.length + 2 := by rw [asS_size]; simp
      by_cases hz : z = []
      · subst hz
        have hix : ∀ W, (Instr.index 9 (.string (asS [x, y])) (.int .i64 1)).run Tryz.prog W = .ok (.int .u8 y.toNat) W := fun W => enc_ix (asS [x, y]) y 1 (by rw [asS_size]; simp) rfl W
        have hix0 : ∀ W, (Instr.index 9 (.string ⟨#[13, 10]⟩) (.int .i64 1)).run Tryz.prog W = .ok (.int .u8 10) W := fun W => by kernel_rfl
        have hy : 128 ≤ y.toNat := hall y (by simp)
        have hy2 := y.toNat_lt
        have HIB := hid (fun W => ib_nil y.toNat W)
        have hsz2 : (asS [x, y]).size = 2 := hsz
        have hne : (((10 : Int)) != (y.toNat : Int)) = true := by
          rw [bne, beq_eq_false_iff_ne.2 (by omega)]; rfl
        have hw2 : IntKind.i64.wrap 2 = 2 := by decide
        have hsl : ∀ W, (Instr.slice 9 (.string ⟨#[13, 10]⟩) (some (.int .i64 2)) none none).run Tryz.prog W = .ok (.string ⟨#[]⟩) W := fun W => by kernel_rfl
        have hsl2 : ∀ W, (Instr.sliceAt 9 (.string ⟨#[13, 10]⟩) (some (.int .i64 2)) none none).run Tryz.prog W = .ok (.string ⟨#[]⟩) W := fun W => by kernel_rfl
        clear hsz hE hall hlen
        generalize y.toNat = q at hix hy hy2 HIB hne
        generalize asS [x, y] = E at hcv hix hsz2
        clear h0 h1
        go_enter Tryz.func161, Tryz.ntmps161
        go_wp2_with fail
        refine (HV.out _).mono ?_
        rintro e W1 ⟨rfl, rfl⟩
        go_wp2_with fail
        go_step3
        go_wp2_with fail
        refine wp_loop_rounds 1 ?_
        rw [rounds_succ]
        go_wp2_with fail
        go_step3
        go_wp2_with fail
        go_quiet (fail)
        go_wp2_with fail
        have HB2 := hid (below_drewN W1.heap.size W1 nq)
        generalize W1.drewN nq = W2 at HB2 ⊢
        go_quiet ((go_at_call 58; exact Calls.quiet_of_same (ib_nil _ _)))
        go_wp2_with fail
        rw [Exit.noGoto_ret]
        go_wp2_with fail
        rw [Exit.noGoto_ret]
        go_ret
        exact ⟨rfl, HB2.out.trans (below_drewN _ _ _)⟩
      · have hz2 : 1 ≤ z.length := by cases z with | nil => exact absurd rfl hz | cons _ _ => simp
        have hs3 : 3 ≤ (asS (x :: y :: z)).size := by rw [hsz]; omega
        have hs4 : (asS (x :: y :: z)).size ≤ 4 := by rw [asS_size]; exact hlen
        clear hsz hE hall hlen hz hz2
        generalize asS (x :: y :: z) = E at hcv hs3 hs4
        have hi : ¬ ((E.size : Int) - 1 < 2) := by omega
        clear h0 h1
        go_enter Tryz.func161, Tryz.ntmps161
        go_wp2_with fail
        refine (HV.out _).mono ?_
        rintro e W1 ⟨rfl, rfl⟩
        go_wp2_with fail
        go_step3
        go_wp2_with fail
        refine wp_loop_rounds 1 ?_
        rw [rounds_succ]
        go_wp2_with fail
        rw [Exit.noGoto_ret]
        go_ret
        exact ⟨rfl, Below.refl _ _⟩
theorem ix_in (c : UInt8) : decide (0 ≤ Lib.indexByte [13, 10] c) = decide (c = 13 ∨ c = 10) := by
  rw [← Lib.contains_iff_indexByte]
  by_cases h1 : c = 13
  · subst h1; rfl
  · by_cases h2 : c = 10
    · subst h2; rfl
    · rw [decide_eq_false (by rintro (h | h); exact h1 h; exact h2 h)]
      simp [h1, h2]
set_option maxHeartbeats 2000000 in
set_option maxRecDepth 100000 in
theorem any_short (l : List UInt8) (h8 : l.length ≤ 8) (w : World) : Calls Tryz.prog 163 #[.string (asS l), .string ⟨#[13, 10]⟩] w fun e w' => ∃ z : Int, e = .returned (.int .i64 z) ∧ decide (0 ≤ z) = endsIn l ∧ Below w.heap.size w w' := by
  have HRS := hid (fun k hk => rune_step (asS l) k hk)
  have HSZ : Hid ((asS l).size = l.length) := asS_size l
  have HSA : Hid ((asS l).data.toList = l) := asS_data l
  rw [asS_data] at HRS
  have h8z : decide ((8 : Int) < ((asS l).size : Int)) = false := decide_eq_false (by rw [asS_size]; omega)
  have hsz : (asS l).size ≤ 8 := by rw [asS_size]; exact h8
  have HUS := hid (fun W => Tryz.strings_shouldUseASCIISet ((asS l).size : Int) W)
  rw [h8z] at HUS
  generalize asS l = S at HRS HSZ HSA hsz HUS ⊢
  clear h8 h8z
  go_enter Tryz.func163, Tryz.ntmps163
  go_wp2_with fail
  refine (HUS.out _).mono ?_
  rintro e W1 ⟨rfl, rfl⟩
  go_wp2_with fail
  go_loopg [9, 10] S.size (fun g _ _ wx => ∃ i : Nat, S.size ≤ i + g ∧ Hid (wx.heap[W1.heap.size]? = some (.stringIter S i)) ∧ Hid (NoEnd l i) ∧ Hid (Below W1.heap.size W1 wx))
  case atStart => exact ⟨0, by omega, heap_alloc_new W1 _, fun j hj => by omega, (Below.refl _ _).alloc (Nat.le_refl _) _⟩
  case round =>
    obtain ⟨i, hig, HIT, HNE, HB⟩ := hrel
    by_cases hi : i < S.size
    · have hnx := fun ty => Lib.run_next_any_at (P := Tryz.prog) wr W1.heap.size S i ty HIT.out hi
      have HIT2 := hid (fun pos' => Lib.iterAt_heap wr W1.heap.size S i pos' HIT.out)
      have HB2 := hid (fun pos' => Lib.below_iterAt HB.out (k := W1.heap.size) (Nat.le_refl _) S pos')
      obtain ⟨g, rfl⟩ : ∃ g, gk = g + 1 := ⟨gk - 1, by omega⟩
      rcases HRS.out i hi with ⟨c, h1, h2, h3, h4⟩ | ⟨h1, h2, h3, h4⟩
      · rw [h1, h4] at hnx
        have HIR := hid (fun W => Tryz.strings_IndexRune_ascii ⟨#[13, 10]⟩ (c.toNat : Int) W (by omega) (by omega))
        rw [show ((c.toNat : Int)).toNat.toUInt8 = c from by simp] at HIR
        have HIN : Hid (decide (0 ≤ Lib.indexByte (⟨#[13, 10]⟩ : ByteArray).data.toList c) = decide (c = 13 ∨ c = 10)) := ix_in c
        have HL3 := hid h3
        have HLT : Hid (i < l.length) := by show _ < _; rw [← HSZ.out]; exact hi
        have HI1 := hid (HIT2.out (i + 1))
        have HB1 := hid (HB2.out (i + 1))
        clear h1 h2 h3 h4 HIT2 HB2 HRS
        generalize Lib.indexByte (⟨#[13, 10]⟩ : ByteArray).data.toList c = z at HIR HIN
        generalize wr.iterAt W1.heap.size S (i + 1) = W2 at hnx HI1 HB1
        generalize c.toNat = x at hnx HIR
        by_cases hc : c = 13 ∨ c = 10
        · have hz : 0 ≤ z := of_decide_eq_true (by rw [HIN.out]; exact decide_eq_true hc)
          have HE : Hid (endsIn l = true) := ends_at HLT.out (by rw [HL3.out]; exact hc)
          go_wp2_with fail
          refine (HIR.out _).mono ?_
          rintro e W3 ⟨rfl, rfl⟩
          go_wp2_with fail
          go_ret
          exact ⟨_, rfl, by rw [HE.out]; exact decide_eq_true (by omega), HB1.out⟩
        · have hz : ¬ 0 ≤ z := of_decide_eq_false (by rw [HIN.out]; exact decide_eq_false hc)
          have HN1 : Hid (NoEnd l (i + 1)) := HNE.out.more (fun j hj => by
            obtain rfl : j = 0 := by omega
            rw [Nat.add_zero, HL3.out]
            exact ⟨fun h => hc (.inl h), fun h => hc (.inr h)⟩)
          go_wp2_with fail
          refine (HIR.out _).mono ?_
          rintro e W3 ⟨rfl, rfl⟩
          go_wp2_with fail
          go_roundg g
          case measure => omega
          case rel => exact ⟨i + 1, by omega, HI1, HN1, HB1⟩
      · have HIR := hid (fun W => ixRune_hi ((Utf8.decode S i).1 : Int) (by omega) (by omega) W)
        have HN1 : Hid (NoEnd l (i + (Utf8.decode S i).2)) := HNE.out.more h4
        have HI1 := hid (HIT2.out (i + (Utf8.decode S i).2))
        have HB1 := hid (HB2.out (i + (Utf8.decode S i).2))
        clear h1 h2 h4 HIT2 HB2 HRS
        generalize (Utf8.decode S i).1 = x at hnx HIR
        generalize (Utf8.decode S i).2 = m at hnx HN1 HI1 HB1 h3
        generalize wr.iterAt W1.heap.size S (i + m) = W2 at hnx HI1 HB1
        go_wp2_with fail
        refine (HIR.out _).mono ?_
        rintro e W3 ⟨rfl, hb3⟩
        have HI3 := hid ((hb3.block W1.heap.size (Array.getElem?_eq_some_iff.1 HI1.out).1).trans HI1.out)
        have HB3 := hid (HB1.out.trans (hb3.mono HB1.out.size))
        clear hb3
        go_wp2_with fail
        go_roundg g
        case measure => omega
        case rel => exact ⟨i + m, by omega, HI3, HN1, HB3⟩
    · have hnx := fun ty => Lib.run_next_end_at (P := Tryz.prog) wr W1.heap.size S i ty HIT.out hi
      have HE : Hid (endsIn l = false) := HNE.out.none (by rw [← HSZ.out]; omega)
      go_wp2_with fail
      go_ret
      exact ⟨_, rfl, by rw [HE.out]; rfl, HB.out⟩
theorem any_ends : ∀ l : List UInt8, decide (0 ≤ Lib.indexAny l [13, 10]) = endsIn l
  | [] => by decide
  | c :: r => by
    have ih := any_ends r
    have hge := Lib.indexAny_ge [13, 10] r
    have e : endsIn (c :: r) = (decide (c = 13 ∨ c = 10) || endsIn r) := by
      unfold endsIn
      rw [Bool.eq_iff_iff]
      simp only [Bool.or_eq_true, decide_eq_true_eq, List.mem_cons]
      constructor
      · rintro ((h | h) | (h | h))
        · exact .inl (.inl h.symm)
        · exact .inr (.inl h)
        · exact .inl (.inr h.symm)
        · exact .inr (.inr h)
      · rintro ((h | h) | (h | h))
        · exact .inl (.inl h.symm)
        · exact .inr (.inl h.symm)
        · exact .inl (.inr h)
        · exact .inr (.inr h)
    rw [e, ← ih]
    have hcn : ([13, 10] : List UInt8).contains c = decide (c = 13 ∨ c = 10) := by
      by_cases h1 : c = 13
      · subst h1; rfl
      · by_cases h2 : c = 10
        · subst h2; rfl
        · rw [decide_eq_false (by rintro (h | h); exact h1 h; exact h2 h)]
          simp [h1, h2]
    rw [Lib.indexAny, hcn]
    cases decide (c = 13 ∨ c = 10) with
    | true => simp
    | false =>
      simp only [Bool.false_or, Bool.false_eq_true, if_false]
      by_cases h : Lib.indexAny r [13, 10] = -1
      · rw [h]; rfl
      · rw [if_neg (by simpa using h)]
        exact decide_eq_decide.2 (by omega)
/-- strings.ContainsAny at the ends of lines: any bytes. -/
theorem contains_ends (l : List UInt8) (hl : l.length ≤ 1000000) (w : World) : Calls Tryz.prog 142 #[.string (asS l), .string ⟨#[13, 10]⟩] w fun e w' => e = .returned (.bool (endsIn l)) ∧ Below w.heap.size w w' := by
  have c : Calls Tryz.prog 163 #[.string (asS l), .string ⟨#[13, 10]⟩] w fun e w' => ∃ z : Int, e = .returned (.int .i64 z) ∧ decide (0 ≤ z) = endsIn l ∧ Below w.heap.size w w' := by
    by_cases h8 : l.length ≤ 8
    · exact any_short l h8 w
    · refine (Tryz.strings_IndexAny_long (asS l) ⟨#[13, 10]⟩ w (by decide) (by rw [asS_size]; omega) (by rw [asS_size]; omega) (by decide) (fun j b hb => ?_)).mono ?_
      · have hm : b ∈ ([13, 10] : List UInt8) := List.mem_of_getElem? hb
        simp only [List.mem_cons, List.not_mem_nil, or_false] at hm
        rcases hm with rfl | rfl <;> decide
      · rintro e w' ⟨rfl, rfl⟩
        exact ⟨_, rfl, any_ends l, ((Below.refl _ _).alloc (Nat.le_refl _) _).alloc (by simp) _⟩
  have HC := hid c
  clear c
  generalize endsIn l = E at HC ⊢
  generalize asS l = S at HC ⊢
  clear hl
  go_enter Tryz.func142, Tryz.ntmps142
  go_wp2_with fail
  refine HC.out.mono ?_
  rintro e W1 ⟨z, rfl, hz, hb⟩
  have HB := hid hb
  subst hz
  clear hb
  go_wp2_with fail
  go_ret
  exact ⟨rfl, HB.out⟩
end Go.Proofs.YtclonnpglikddaaGreatDoor
