
/- The reference's reader by what is left of its text: past, white, digits, now, wrong; a whole number. -/
import Derived.Test.YtlgkbdebpnbndaaGreatDoorJsRd2
import Derived.Test.YtlgkbdebpnbndaaGreatDoorJsNum
namespace Go.Proofs.YtlgkbdebpnbndaaGreatDoor
set_option linter.unusedVariables false
set_option linter.unusedSimpArgs false
open Go.RowKit Go.BigFrame

/-- So much is left, and nothing was wrong. -/
def Rl (w : World) (R : Nat) (s l : List UInt8) (m : Nat) : Prop := ∃ p, s.drop p = l ∧ p ≤ s.length ∧ Rq w R s p m 0
/-- Something was wrong. -/
def Re (w : World) (R : Nat) (s : List UInt8) (m k : Nat) : Prop := ∃ p, p ≤ s.length + 10 ∧ Rq w R s p m k
theorem Rl.below {w w' : World} {R : Nat} {s l : List UInt8} {m : Nat} (h : Rl w R s l m) (hb : Below w.heap.size w w') : Rl w' R s l m := by
  obtain ⟨p, h1, h2, h3⟩ := h
  exact ⟨p, h1, h2, h3.below hb⟩
theorem Re.below {w w' : World} {R : Nat} {s : List UInt8} {m k : Nat} (h : Re w R s m k) (hb : Below w.heap.size w w') : Re w' R s m k := by
  obtain ⟨p, h2, h3⟩ := h
  exact ⟨p, h2, h3.below hb⟩
theorem Rl.lt {w : World} {R : Nat} {s l : List UInt8} {m : Nat} (h : Rl w R s l m) : R < w.heap.size := by
  obtain ⟨p, h1, h2, h3⟩ := h
  exact h3.lt
theorem Rl.len {w : World} {R : Nat} {s l : List UInt8} {m : Nat} (h : Rl w R s l m) : l.length ≤ s.length := by
  obtain ⟨p, h1, h2, h3⟩ := h
  rw [← h1, List.length_drop]
  omega
theorem Rl.wrong {w : World} {R : Nat} {s l : List UInt8} {m : Nat} (h : Rl w R s l m) (k : Nat) : Calls Tryz.prog 42 #[.pointer (some ⟨R, 0, none⟩), .int .i64 (k : Int)] w fun x w' => x = .returned (.tuple #[]) ∧ Re w' R s m k ∧ w.grownBy w' (some R) := by
  obtain ⟨p, h1, h2, h3⟩ := h
  exact (wrongQ s p m 0 k R w h3).mono fun x w' hh => ⟨hh.1, ⟨p, by omega, hh.2.1⟩, to_only hh.2.2⟩
theorem Re.wrong {w : World} {R : Nat} {s : List UInt8} {m k : Nat} (h : Re w R s m k) (hk : k ≠ 0) (k2 : Nat) : Calls Tryz.prog 42 #[.pointer (some ⟨R, 0, none⟩), .int .i64 (k2 : Int)] w fun x w' => x = .returned (.tuple #[]) ∧ Re w' R s m k ∧ w.grownBy w' (some R) := by
  obtain ⟨p, h2, h3⟩ := h
  exact (wrongQ s p m k k2 R w h3).mono fun x w' hh => ⟨hh.1, ⟨p, by omega, by have := hh.2.1; rw [if_neg hk] at this; exact this⟩, to_only hh.2.2⟩
theorem getD_drop0 (s : List UInt8) (p : Nat) : s.getD p 0 = (s.drop p).headD 0 := by
  rw [List.getD_eq_getElem?_getD, List.headD_eq_head?_getD, List.head?_drop]
theorem Rl.now {w : World} {R : Nat} {s l : List UInt8} {m : Nat} (h : Rl w R s l m) : Calls Tryz.prog 68 #[.pointer (some ⟨R, 0, none⟩)] w fun x w' => x = .returned (.int .u8 ((l.headD 0).toNat : Int)) ∧ Below w.heap.size w w' := by
  obtain ⟨p, h1, h2, h3⟩ := h
  have := nowQ s p m 0 R w h3
  rw [getD_drop0, h1] at this
  exact this
theorem Rl.nowD {w : World} {R : Nat} {s l : List UInt8} {m : Nat} (h : Rl w R s l m) : Calls Tryz.prog 68 #[.pointer (some ⟨R, 0, none⟩)] w fun x w' => x = .returned (.int .u8 ((l.headD 0).toNat : Int)) ∧ ∃ n, w' = w.drewN n := by
  obtain ⟨p, h1, h2, h3⟩ := h
  have := Go.Proofs.YtlgkbdebpnbndaaGreatDoor.nowD s p m 0 R w h3
  rw [getD_drop0, h1] at this
  exact this
theorem Rl.past {w : World} {R : Nat} {s l : List UInt8} {m : Nat} (h : Rl w R s l m) (c : UInt8) (hs : s.length ≤ 1000000) : Calls Tryz.prog 96 #[.pointer (some ⟨R, 0, none⟩), .int .u8 (c.toNat : Int)] w fun x w' => x = .returned (.bool (preX [c] l)) ∧ Rl w' R s (passJ [c] l) m ∧ w.grownBy w' (some R) := by
  obtain ⟨p, h1, h2, h3⟩ := h
  subst h1
  refine (pastQ s p m 0 R c hs w h3).mono fun x w' hh => ⟨hh.1, ?_, hh.2.2⟩
  have hr := hh.2.1
  cases hp : preX [c] (s.drop p) with
  | true =>
    rw [hp, if_pos rfl] at hr
    have hl := drop_one hp
    simp only [List.length_drop] at hl
    rw [passJ_yes hp]
    exact ⟨p + 1, by rw [← List.drop_drop]; rfl, by omega, hr⟩
  | false =>
    rw [hp] at hr
    rw [passJ_no hp]
    exact ⟨p, rfl, h2, hr⟩
theorem drop_twQ (P : UInt8 → Bool) (s : List UInt8) (p : Nat) : s.drop (p + ((s.drop p).takeWhile P).length) = (s.drop p).dropWhile P := by
  rw [← List.drop_drop]
  generalize s.drop p = l
  have h := List.takeWhile_append_dropWhile (p := P) (l := l)
  have h2 := congrArg (List.drop (l.takeWhile P).length) h
  rw [List.drop_left] at h2
  exact h2.symm
theorem Rl.white {w : World} {R : Nat} {s l : List UInt8} {m : Nat} (h : Rl w R s l m) (hs : s.length ≤ 1000000) : Calls Tryz.prog 41 #[.pointer (some ⟨R, 0, none⟩)] w fun x w' => x = .returned (.tuple #[]) ∧ Rl w' R s (l.dropWhile whX) m ∧ w.grownBy w' (some R) := by
  obtain ⟨p, h1, h2, h3⟩ := h
  subst h1
  have hle := tw_leQ whX s p
  exact (whiteQ s p m 0 R hs (by omega) w h3).mono fun x w' hh => ⟨hh.2.1, ⟨_, drop_twQ whX s p, by omega, hh.2.2⟩, hh.1⟩
theorem Re.white {w : World} {R : Nat} {s : List UInt8} {m k : Nat} (h : Re w R s m k) (hs : s.length ≤ 1000000) : Calls Tryz.prog 41 #[.pointer (some ⟨R, 0, none⟩)] w fun x w' => x = .returned (.tuple #[]) ∧ Re w' R s m k ∧ w.grownBy w' (some R) := by
  obtain ⟨p, h2, h3⟩ := h
  have hle := tw_leQ whX s p
  exact (whiteQ s p m k R hs (by omega) w h3).mono fun x w' hh => ⟨hh.2.1, ⟨_, by omega, hh.2.2⟩, hh.1⟩
theorem Rl.digits {w : World} {R : Nat} {s l : List UInt8} {m : Nat} (h : Rl w R s l m) (hs : s.length ≤ 1000000) : Calls Tryz.prog 98 #[.pointer (some ⟨R, 0, none⟩)] w fun x w' => x = .returned (.int .i64 ((l.takeWhile digJ).length : Nat)) ∧ Rl w' R s (l.dropWhile digJ) m ∧ w.grownBy w' (some R) := by
  obtain ⟨p, h1, h2, h3⟩ := h
  subst h1
  have hle := tw_leQ digJ s p
  exact (digitsQ s p m 0 R hs (by omega) w h3).mono fun x w' hh => ⟨hh.2.1, ⟨_, drop_twQ digJ s p, by omega, hh.2.2⟩, hh.1⟩

/-! ### A whole number of its digits -/
def decM (l : List UInt8) : Nat := l.foldl (fun a c => if c = 45 then a else a * 10 + (c.toNat - 48)) 0
theorem decM_digs : ∀ (l : List UInt8) (a : Nat), (∀ c ∈ l, digJ c = true) → l.foldl (fun a c => if c = 45 then a else a * 10 + (c.toNat - 48)) a = l.foldl (fun a c => a * 10 + (c.toNat - 48)) a
  | [], a, _ => rfl
  | c :: l, a, h => by
    have hc := h c (by simp)
    have hn : c ≠ 45 := fun e => by rw [e] at hc; revert hc; decide
    rw [List.foldl_cons, List.foldl_cons, if_neg hn]
    exact decM_digs l _ fun d hd => h d (by simp [hd])
theorem decM_sign (b : Bool) (ds : List UInt8) (h : ∀ c ∈ ds, digJ c = true) : decM ((if b then [45] else []) ++ ds) = decJ ds := by
  cases b with
  | true => exact decM_digs ds 0 h
  | false => exact decM_digs ds 0 h
theorem decM_step (l : List UInt8) (k : Nat) (h : k < l.length) : decM (l.take (k + 1)) = if l.getD k 0 = 45 then decM (l.take k) else decM (l.take k) * 10 + ((l.getD k 0).toNat - 48) := by
  unfold decM
  rw [take_getD l 0 k h, List.foldl_append]
  rfl
theorem decM_mono (l : List UInt8) (k : Nat) : decM (l.take k) ≤ decM l := by
  have e : l = l.take k ++ l.drop k := (List.take_append_drop k l).symm
  have key : ∀ (r : List UInt8) (a : Nat), a ≤ r.foldl (fun a c => if c = 45 then a else a * 10 + (c.toNat - 48)) a := by
    intro r
    induction r with
    | nil => intro a; exact Nat.le_refl _
    | cons c r ih =>
      intro a
      rw [List.foldl_cons]
      refine Nat.le_trans ?_ (ih _)
      split
      · exact Nat.le_refl _
      · omega
  have h2 : decM l = (l.drop k).foldl (fun a c => if c = 45 then a else a * 10 + (c.toNat - 48)) (decM (l.take k)) := by
    unfold decM
    rw [← List.foldl_append, List.take_append_drop]
  rw [h2]
  exact key _ _
/-- What whole answers. -/
def WholeP (v : Int) (e : Ending) : Prop := (fitsJ v = true → e = .returned (.tuple #[.int .i64 v, .bool true])) ∧ (fitsJ v = false → ∃ n, e = .returned (.tuple #[.int .i64 n, .bool false]))
theorem fits_iff (v : Int) : fitsJ v = true ↔ -9223372036854775808 ≤ v ∧ v ≤ 9223372036854775807 := by unfold fitsJ; rw [decide_eq_true_eq]
set_option maxHeartbeats 4000000 in
set_option maxRecDepth 100000 in
theorem wholeQ (b : Bool) (ds : List UInt8) (h0 : ds ≠ []) (hd : ∀ c ∈ ds, digJ c = true) (hl : ds.length ≤ 1000000) (w : World) : Calls Tryz.prog 99 #[.string (asS ((if b then [45] else []) ++ ds))] w fun x w' => WholeP (if b then -(decJ ds : Int) else decJ ds) x ∧ Below w.heap.size w w' := by
  have HDJ := hid (decM_sign b ds hd)
  have hfst : (((if b then [45] else []) ++ ds : List UInt8).getD 0 0 = 45) ↔ b = true := by
    cases b with
    | true => exact ⟨fun _ => rfl, fun _ => rfl⟩
    | false =>
      cases ds with
      | nil => exact absurd rfl h0
      | cons c r =>
        refine ⟨fun h => ?_, fun h => by cases h⟩
        have hc := hd c (by simp)
        have : c = 45 := h
        rw [this] at hc
        revert hc
        decide
  have hdig : ∀ k, k < ((if b then [45] else []) ++ ds : List UInt8).length → ((if b then [45] else []) ++ ds : List UInt8).getD k 0 ≠ 45 → digJ (((if b then [45] else []) ++ ds : List UInt8).getD k 0) = true := fun k hk hne => by
    have hm : ((if b then [45] else []) ++ ds : List UInt8).getD k 0 ∈ ((if b then [45] else []) ++ ds : List UInt8) := getD_mem9 hk
    rcases List.mem_append.1 hm with h | h
    · cases b with
      | true => exact absurd (by simpa using h) hne
      | false => cases h
    · exact hd _ h
  have hlen : ((if b then [45] else []) ++ ds : List UInt8).length ≤ 1000001 := by
    cases b <;> simp <;> omega
  have hlen0 : 0 < ((if b then [45] else []) ++ ds : List UInt8).length := by
    have : 0 < ds.length := List.length_pos_iff.2 h0
    rw [List.length_append]
    omega
  have HV : Hid (∀ e, ((decJ ds ≤ 9223372036854775808 ∧ (b = true ∨ decJ ds ≠ 9223372036854775808)) → e = .returned (.tuple #[.int .i64 (if b then -(decJ ds : Int) else decJ ds), .bool true])) → (¬ (decJ ds ≤ 9223372036854775808 ∧ (b = true ∨ decJ ds ≠ 9223372036854775808)) → ∃ n, e = .returned (.tuple #[.int .i64 n, .bool false])) → WholeP (if b then -(decJ ds : Int) else decJ ds) e) := fun e h1 h2 => by
    unfold WholeP
    cases b with
    | true => exact ⟨fun hf => h1 ⟨by have := (fits_iff _).1 hf; simp only [if_true] at this; omega, .inl rfl⟩, fun hf => h2 fun h => by rw [(fits_iff _).2 (by simp only [if_true]; omega)] at hf; cases hf⟩
    | false => exact ⟨fun hf => h1 ⟨by have := (fits_iff _).1 hf; simp at this; omega, .inr (by have := (fits_iff _).1 hf; simp at this; omega)⟩, fun hf => h2 fun h => by rw [(fits_iff _).2 (by have := h.2; simp at this ⊢; omega)] at hf; cases hf⟩
  have HVT : Hid (b = true → (if b then -(decJ ds : Int) else (decJ ds : Int)) = -(decJ ds : Int)) := fun h => if_pos h
  have HVF : Hid (b = false → (if b then -(decJ ds : Int) else (decJ ds : Int)) = (decJ ds : Int)) := fun h => by rw [h]; rfl
  generalize (if b = true then -(decJ ds : Int) else (decJ ds : Int)) = VV at HV HVT HVF ⊢
  generalize hF : (if b then [45] else []) ++ ds = F at *
  have HIX := hid (fun k h W => str_ix (asS F) k h W)
  rw [asS_data] at HIX
  have hix0 : ∀ W, (Instr.index 9 (.string (asS F)) (.int .i64 0)).run Tryz.prog W = .ok (.int .u8 ((F.getD 0 0).toNat : Int)) W := fun W => HIX.out 0 (by rw [asS_size]; omega) W
  have hb45 : (((F.getD 0 0).toNat : Int) == 45) = b := by
    rw [Bool.eq_iff_iff, beq_iff_eq, ← hfst]
    exact ⟨fun h => UInt8.toNat_inj.1 (by show _ = 45; omega), fun h => by rw [h]; rfl⟩
  generalize (F.getD 0 0).toNat = c00 at hix0 hb45
  have HZ := hid (asS_size F)
  have HDIG := hid hdig
  have HSTP := hid (decM_step F)
  have HMON := hid (decM_mono F)
  have HM0 : Hid (decM (F.take 0) = 0) := rfl
  have HML : Hid (decM (F.take F.length) = decM F) := by show _ = _; rw [List.take_of_length_le (Nat.le_refl _)]
  rw [HDJ.out] at HMON HML
  clear hfst hdig h0 hd hF HDJ
  obtain ⟨MX, hMX⟩ : ∃ MX : Nat → Nat, MX = fun k => decM (F.take k) := ⟨_, rfl⟩
  have HSTP2 : Hid (∀ k, k < F.length → MX (k + 1) = if F.getD k 0 = 45 then MX k else MX k * 10 + ((F.getD k 0).toNat - 48)) := by subst hMX; exact HSTP.out
  have HMON2 : Hid (∀ k, MX k ≤ decJ ds) := by subst hMX; exact HMON.out
  have HM02 : Hid (MX 0 = 0) := by subst hMX; exact HM0.out
  have HML2 : Hid (MX F.length = decJ ds) := by subst hMX; exact HML.out
  clear hMX HSTP HMON HM0 HML
  generalize decJ ds = D at *
  generalize hL : F.length = L at *
  generalize asS F = S at HIX HZ hix0 ⊢
  have hsz : S.size = L := HZ.out
  clear hL
  go_enter Tryz.func99, Tryz.ntmps99
  go_wp2_with fail
  clear hix0
  go_loopw [4, 6, 7] (fun nv i dv wr => ∃ (k N : Nat), k ≤ L ∧ i = .int .i64 (k : Int) ∧ nv = .int .i64 (-(N : Int)) ∧ N ≤ 9223372036854775808 ∧ Hid (MX k = N) ∧ Hid (Below w.heap.size w wr)) (fun nv i dv wr => L - (intOf i).toNat)
  case atStart => exact ⟨0, 0, Nat.zero_le _, rfl, rfl, by omega, HM02.out, Below.refl _ _⟩
  case round =>
    obtain ⟨k, N, hk, rfl, rfl, hN, HN, HB⟩ := hrel
    by_cases hlt : k < L
    · have hi : (k : Int) < (L : Int) := by omega
      have hix := HIX.out k (by rw [hsz]; exact hlt)
      have hst := HSTP2.out k hlt
      have hdg := HDIG.out k hlt
      generalize F.getD k 0 = c at hix hst hdg
      by_cases hc : c = 45
      · have hc' : ((c.toNat : Int) == 45) = true := by rw [hc]; rfl
        rw [if_pos hc] at hst
        have HNX := hid (hst.trans HN.out)
        clear hst hdg hc
        generalize c.toNat = cn at hix hc'
        go_wp2_with fail
        go_roundw
        case rel => exact ⟨k + 1, N, by omega, by go_num, rfl, hN, HNX.out, HB⟩
        case measure => simp [intOf]; omega
      · have hc' : ((c.toNat : Int) == 45) = false := by
          rw [beq_eq_false_iff_ne]
          exact fun e => hc (UInt8.toNat_inj.1 (by show c.toNat = 45; omega))
        rw [if_neg hc, HN.out] at hst
        have hd2 := hdg hc
        unfold digJ at hd2
        rw [decide_eq_true_eq] at hd2
        obtain ⟨hd3, hd4⟩ := hd2
        have hmo := HMON2.out (k + 1)
        rw [hst] at hmo
        have HNX := hid hst
        have HMO := hid hmo
        clear hst hdg hc hmo
        generalize c.toNat = cn at *
        obtain ⟨dd, rfl⟩ : ∃ dd, cn = dd + 48 := ⟨cn - 48, by omega⟩
        have hdd : dd ≤ 9 := by omega
        have hsub : ((dd + 48 : Nat) : Int) - 48 = (dd : Int) := by omega
        have hq : (-9223372036854775808 + (dd : Int)).tdiv 10 = -(((9223372036854775808 - dd) / 10 : Nat) : Int) := by
          have e : -9223372036854775808 + (dd : Int) = -((9223372036854775808 - dd : Nat) : Int) := by omega
          rw [e, Int.neg_tdiv, Int.tdiv_eq_ediv_of_nonneg (by omega)]
          omega
        have hQ1 : 10 * ((9223372036854775808 - dd) / 10) ≤ 9223372036854775808 - dd := by omega
        have hQ2 : 9223372036854775808 - dd < 10 * ((9223372036854775808 - dd) / 10) + 10 := by omega
        generalize (9223372036854775808 - dd) / 10 = Q at hq hQ1 hQ2
        by_cases hgt : Q < N
        · have hgt' : -(N : Int) < -(Q : Int) := by omega
          have HBAD := hid (HV.out)
          have hD : ¬ (D ≤ 9223372036854775808 ∧ (b = true ∨ D ≠ 9223372036854775808)) := by
            have := HMO.out
            intro h
            have := h.1
            omega
          have HR : Hid (WholeP VV (.returned (.tuple #[.int .i64 0, .bool false]))) := HV.out _ (fun h => absurd h hD) (fun _ => ⟨0, rfl⟩)
          clear hD HBAD
          go_wp2_with fail
          go_ret2
          exact ⟨HR.out, HB.out⟩
        · have hgt' : ¬ -(N : Int) < -(Q : Int) := by omega
          have hN2 : N * 10 + dd ≤ 9223372036854775808 := by omega
          have HNX2 : Hid (MX (k + 1) = N * 10 + dd) := by show _ = _; rw [HNX.out]; omega
          go_wp2_with fail
          go_roundw
          case rel => exact ⟨k + 1, N * 10 + dd, by omega, by go_num, by go_num, hN2, HNX2.out, HB⟩
          case measure => simp [intOf]; omega
    · have hi : ¬ (k : Int) < (L : Int) := by omega
      obtain rfl : k = L := by omega
      have HD : Hid (N = D) := HN.out.symm.trans HML2.out
      cases b with
      | true =>
        have HR : Hid (WholeP VV (.returned (.tuple #[.int .i64 (-(N : Int)), .bool true]))) := HV.out _ (fun _ => by rw [HVT.out rfl, HD.out]) (fun h => absurd ⟨by rw [← HD.out]; exact hN, .inl rfl⟩ h)
        go_wp2_with fail
        go_ret2
        exact ⟨HR.out, HB.out⟩
      | false =>
        by_cases hm : N = 9223372036854775808
        · have hD : ¬ (D ≤ 9223372036854775808 ∧ (false = true ∨ D ≠ 9223372036854775808)) := by
            have := HD.out
            intro h
            rcases h.2 with h2 | h2
            · cases h2
            · omega
          have HR : Hid (∀ n, WholeP VV (.returned (.tuple #[.int .i64 n, .bool false]))) := fun n => HV.out _ (fun h => absurd h hD) (fun _ => ⟨n, rfl⟩)
          clear hD
          have hne : (-(N : Int) != -9223372036854775808) = false := by rw [bne_eq_false_iff_eq]; omega
          go_wp2_with fail
          go_ret2
          exact ⟨HR.out _, HB.out⟩
        · have HR : Hid (WholeP VV (.returned (.tuple #[.int .i64 (N : Int), .bool true]))) := HV.out _ (fun _ => by rw [HVF.out rfl, HD.out]) (fun h => absurd ⟨by rw [← HD.out]; exact hN, .inr (by rw [← HD.out]; exact hm)⟩ h)
          have hne : (-(N : Int) != -9223372036854775808) = true := by rw [bne_iff_ne]; omega
          go_wp2_with fail
          go_ret2
          exact ⟨HR.out, HB.out⟩
end Go.Proofs.YtlgkbdebpnbndaaGreatDoor
